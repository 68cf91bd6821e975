/-
  The document's Runs, walked.
-/
import Derived.Test.YtlaeaeciomkababDoorRefR5
import Derived.Deep.CutRange
import Derived.Deep.RegionHeld3
namespace Go.Proofs.YtlaeaeciomkababDoor
open Go.RowKit Go.Sort Go.Proofs

theorem newHd (W : World) (r : Nat) (ri c : Int) (hr : ri = r) : ∀ j u, (EH.enc (r, c))[j]? = some u → (W.alloc (.cells #[.int .i64 ri, .int .i64 c] 64)).cell? ((⟨W.heap.size, 0, none⟩ : Addr).add j) = some u := by
  subst hr
  intro j u hu
  match j, hu with
  | 0, hu => cases hu; simp [Addr.add]
  | 1, hu => cases hu; simp [Addr.add]
  | j + 2, hu => simp [EH, encH] at hu
theorem keepH2 {W : World} {q a e b i : Nat} {u v0 v1 : Value} (h : W.cell? ⟨b, i, none⟩ = some u) (hne : b ≠ q) : ((W.setCell ⟨q, a, none⟩ v0).setCell ⟨q, e, none⟩ v1).cell? ⟨b, i, none⟩ = some u :=
  (World.cell?_setCell_other _ _ _ _ (fun x => hne (by injection x with x1; exact x1.symm))).trans ((World.cell?_setCell_other _ _ _ _ (fun x => hne (by injection x with x1; exact x1.symm))).trans h)
theorem setCell_same_val {w : World} {b i : Nat} {v : Value} (h : w.cell? ⟨b, i, none⟩ = some v) : w.setCell ⟨b, i, none⟩ v = w := by
  have e : (w.setCell ⟨b, i, none⟩ v).heap = w.heap := by
    apply Array.ext_getElem?
    intro k
    by_cases hk : k = b
    · subst hk
      cases hb : w.heap[k]? with
      | none => simp [World.cell?, hb] at h
      | some o =>
        cases o with
        | cells cs T fr =>
          rw [heap_put hb]
          congr 2
          simp [World.cell?, hb] at h
          apply Array.ext_getElem?
          intro t
          by_cases ht : i = t
          · subst ht
            obtain ⟨hi, _⟩ := Array.getElem?_eq_some_iff.1 h
            rw [Array.getElem?_setIfInBounds_self_of_lt hi, h]
          · rw [Array.getElem?_setIfInBounds_ne ht]
        | _ => simp [World.cell?, hb] at h
    · exact heap_far v hk
  cases w
  simp only [World.setCell] at e ⊢
  rw [e]
/-- An element of the list of what is held, given another run. -/
theorem OwnE.setRun {w : World} {base g n cap : Nat} {S : List Hd} (h : OwnE EH w base (.slice (Option.some ⟨g, 0, none⟩) n cap) S) {k a a' : Nat} {b : Int} (hk : S[k]? = Option.some (a, b)) (hn : k < n) : OwnE EH (w.setCell ⟨g, k * 2, none⟩ (.int .i64 a')) base (.slice (Option.some ⟨g, 0, none⟩) n cap) (S.set k (a', b)) := by
  have h1 := h.setE hn (a', b)
  obtain ⟨g', cp, e, _, _, hr, _⟩ := h.some (n := n) h.capBound.1 (by omega)
  simp only [Value.slice.injEq, Option.some.injEq, Addr.mk.injEq] at e
  obtain ⟨⟨rfl, _⟩, _⟩ := e
  have c1 := (hr.hd hk).2
  rw [Nat.zero_add] at c1
  have c2 : (w.setCell ⟨g, k * 2, none⟩ (.int .i64 a')).cell? ⟨g, k * 2 + 1, none⟩ = Option.some (.int .i64 b) := (World.cell?_setCell_other _ _ _ _ (by simp)).trans c1
  have h2 : OwnE EH ((w.setCell ⟨g, k * 2, none⟩ (.int .i64 a')).setCell ⟨g, k * 2 + 1, none⟩ (.int .i64 b)) base (.slice (Option.some ⟨g, 0, none⟩) n cap) (S.set k (a', b)) := h1
  rw [setCell_same_val c2] at h2
  exact h2
set_option maxHeartbeats 16000000 in
set_option maxRecDepth 100000 in
theorem refRuns_any {w : World} {v : Value} {l : List Int} {room : Nat} (h : SlE EZ w v l) (h60 : l.length ≤ 60) (hr : 1 ≤ room) :
    Calls Tryd.prog 15 #[v, .int .i64 room] w fun e w' => ∃ v' ss f, e = .returned v' ∧ RowsS w' v' ss (rowsR (outs room l)) f ∧ Below w.heap.size w w' := by
  obtain ⟨p, cap, rfl, _⟩ := id h
  obtain ⟨n, hn⟩ : ∃ n, l.length = n := ⟨_, rfl⟩
  rw [hn] at h h60 ⊢
  have HL := hidp h
  have HN := hidp hn
  have HR := hidp hr
  clear h hn hr
  go_enter Tryd.func15, Tryd.ntmps15
  go_wp2
  go_loopg [5, 6, 7] (2 * n) (fun g v5 v6 v7 wr => ∃ (po ph : Option Addr) (no co mh ch i : Nat) (S pre : List Hd) (ss : List Sv) (fr : List Nat), v5 = .slice po no co ∧ v6 = .slice ph mh ch ∧ v7 = .int .i64 i ∧ 2 * (n - i) + mh ≤ g ∧ i ≤ n ∧ no ≤ 60 ∧ mh ≤ 60 ∧
    Hid (no = (rowsR pre).length ∧ mh = S.length) ∧ Hid (DcP room l (l.take i) (l.drop i) pre S) ∧ Hid (DocM w wr (.slice po no co) (.slice ph mh ch) (rowsR pre) S ss fr))
  case atStart => exact ⟨none, none, 0, 0, 0, 0, 0, [], [], [], [], rfl, rfl, rfl, by omega, by omega, by omega, by omega, (show Hid _ from ⟨rfl, rfl⟩), (show Hid _ from DcP.begin room l), (show Hid _ from DocM.begin w)⟩
  case round =>
    obtain ⟨po, ph, no, co, mh, ch, i, S, pre, ss, fr, rfl, rfl, rfl, hg, hi, hno, hmh, HNM, HD, HM⟩ := hrel
    by_cases hin : i < n
    · have hiz : (i : Int) < (n : Int) := by omega
      obtain ⟨c, hc⟩ : ∃ c, l[i]? = some c := ⟨_, List.getElem?_eq_getElem (by have := HN.out; omega)⟩
      obtain ⟨bl, ol, rfl, _, _, hrd⟩ := HL.out.some (by omega)
      have ca : wr.cell? ⟨bl, ol + i, none⟩ = some (.int .i64 c) := (hrd.below HM.out.bl hrd.1).int hc
      have HC : Hid (l.drop i = c :: l.drop (i + 1)) := by
        obtain ⟨h1, h2⟩ := List.getElem?_eq_some_iff.1 hc
        show _ = _
        rw [← h2, List.getElem_cons_drop]
      have HC2 : Hid (l.take (i + 1) = l.take i ++ [c]) := by
        obtain ⟨h1, h2⟩ := List.getElem?_eq_some_iff.1 hc
        show _ = _
        rw [List.take_succ_eq_append_getElem h1, h2]
      have HCC := hidp hc
      have HRD := hidp hrd
      clear hc hrd
      rw [HC.out] at HD
      by_cases hroom : mh < room
      · as_aux_lemma =>
          have hrz : (mh : Int) < (room : Int) := by omega
          obtain ⟨hpre, hd⟩ := HD.out.hold HR.out (by rw [← HNM.out.2]; exact hroom)
          subst hpre
          have HD2 := hidp hd
          have HOA := hidp (HM.out.own.alloc (.cells #[.int .i64 0, .int .i64 c] 64))
          have HNEW := hidp (newHd wr 0 0 c rfl)
          have HSZ : Hid (S.length ≤ 100000) := by show _ ≤ _; have := HNM.out.2; omega
          have HBS : Hid (w.heap.size ≤ (wr.alloc (.cells #[.int .i64 0, .int .i64 c] 64)).heap.size) := by have := HM.out.bl.size; show _ ≤ _; simp; omega
          have HBA : Hid (Below wr.heap.size wr (wr.alloc (.cells #[.int .i64 0, .int .i64 c] 64))) := (Below.refl _ wr).alloc (Nat.le_refl _) _
          clear hd
          go_wp2_with (at_builtin; refine wpList_appendE EH rfl (.tmp 30) (.tmp 36) rfl w.heap.size _ S (0, c) ⟨wr.heap.size, 0, none⟩ 1 rfl HOA.out rfl HNEW.out HSZ.out HBS.out ?_; intro v1 w1 a1 a2 a3; have hM1 := HM.out.held a1 ((Chg.of_below HBA.out).trans (Chg.of_grown a2 fun k e => e.symm) fun j q => Or.inl q) (a3.imp_right fun e => ⟨_, e, HBA.out.size⟩); obtain ⟨p1, k1, hv1⟩ := OwnE.form a1; rw [List.length_append, ← HNM.out.2, List.length_singleton] at hv1; subst hv1; have HM1 := hidp hM1; clear a1 a2 a3 hM1)
          go_roundg (2 * (n - (i + 1)) + (mh + 1))
          case measure => omega
          case rel =>
            refine ⟨po, p1, no, co, mh + 1, k1, i + 1, S ++ [(0, c)], [], ss, fr, rfl, rfl, by go_num, by omega, by omega, by omega, ?_, (show Hid _ from ⟨HNM.out.1, by rw [HNM.out.2]; simp⟩), (show Hid _ from by rw [HC2.out]; exact HD2.out), HM1⟩
            have h1 := (HD2.out.run.lens HR.out (by rw [← HC2.out]; exact Nat.le_trans (List.length_take_le _ _) (by omega))).2.2
            simp at h1
            have := HNM.out.2
            omega
      · have hrz : ¬ (mh : Int) < (room : Int) := by omega
        have hm0 : 0 < mh := by have := HR.out; omega
        have hm0z : (0 : Int) < (mh : Int) := by omega
        obtain ⟨gh, kh, eh, hgh0, hghc, hrh, hfh⟩ := HM.out.own.some HNM.out.2.symm hm0
        simp only [Value.slice.injEq] at eh
        obtain ⟨rfl, _, rfl⟩ := eh
        have HRH := hidp hrh
        have HFH := hidp hfh
        have HB0 : Hid (BestK S 0 0) := BestK.one (by rw [← HNM.out.2]; exact hm0)
        clear hrh hfh
        obtain ⟨W0, hW0⟩ : ∃ W0, W0 = wr := ⟨_, rfl⟩
        subst hW0
        go_wp2
        go_loopg [8, 9] mh (fun g2 v8 v9 W => ∃ (k j : Nat), v8 = .int .i64 k ∧ v9 = .int .i64 j ∧ j + g2 = mh ∧ k < mh ∧ Hid (BestK S j k) ∧ Hid (∃ q, W = W0.drewN q))
        case atStart => exact ⟨0, 0, rfl, rfl, by omega, hm0, HB0, (show Hid _ from ⟨0, rfl⟩)⟩
        case round =>
          obtain ⟨k, j, rfl, rfl, hjg, hkm, HBK, HQ⟩ := hrel
          obtain ⟨⟨x1, x2⟩, hx⟩ : ∃ x, S[k]? = some x := ⟨_, List.getElem?_eq_getElem (by rw [← HNM.out.2]; exact hkm)⟩
          have hkz : (k : Int) < (mh : Int) := by omega
          by_cases hjm : j < mh
          · as_aux_lemma =>
              have hjz : (j : Int) < (mh : Int) := by omega
              obtain ⟨⟨y1, y2⟩, hy⟩ : ∃ x, S[j]? = some x := ⟨_, List.getElem?_eq_getElem (by rw [← HNM.out.2]; exact hjm)⟩
              obtain ⟨a0, a1⟩ := HRH.out.hd hx
              obtain ⟨b0, b1⟩ := HRH.out.hd hy
              rw [Nat.zero_add] at a0 a1 b0 b1
              have c0 : wr.cell? ⟨gh, k * 2, none⟩ = some (.int .i64 x1) := by obtain ⟨q, hq⟩ := HQ.out; rw [hq]; exact a0
              have c1 : wr.cell? ⟨gh, k * 2 + 1, none⟩ = some (.int .i64 x2) := by obtain ⟨q, hq⟩ := HQ.out; rw [hq]; exact a1
              have c2 : wr.cell? ⟨gh, j * 2, none⟩ = some (.int .i64 y1) := by obtain ⟨q, hq⟩ := HQ.out; rw [hq]; exact b0
              have c3 : wr.cell? ⟨gh, j * 2 + 1, none⟩ = some (.int .i64 y2) := by obtain ⟨q, hq⟩ := HQ.out; rw [hq]; exact b1
              have HX := hidp hx
              have HY := hidp hy
              clear a0 a1 b0 b1 hx hy
              have HDR : ∀ nq, Hid (∃ q, wr.drewN nq = W0.drewN q) := fun nq => by obtain ⟨q, hq⟩ := HQ.out; exact ⟨_, by rw [hq, World.drewN_drewN]⟩
              have stay : ¬ ltH (y1, y2) (x1, x2) → Hid (BestK S (j + 1) k) := fun q => HBK.out.stay HX.out HY.out q
              have move : ltH (y1, y2) (x1, x2) → Hid (BestK S (j + 1) j) := fun q => HBK.out.move HX.out HY.out q
              by_cases h1 : y1 < x1
              · have d1 : (y1 : Int) < (x1 : Int) := by omega
                have d1' : decide ((y1 : Int) < (x1 : Int)) = true := decide_eq_true d1
                have HBM := move (Or.inl h1)
                clear stay move
                go_wp2_with fail
                go_quiet (fail)
                go_wp2
                go_roundg (mh - (j + 1))
                case measure => omega
                case rel => exact ⟨j, j + 1, rfl, by go_num, by omega, hjm, HBM, HDR _⟩
              · have d1 : ¬ (y1 : Int) < (x1 : Int) := by omega
                have d1' : decide ((y1 : Int) < (x1 : Int)) = false := decide_eq_false d1
                by_cases h2 : y1 = x1
                · have d2 : ((y1 : Int) == (x1 : Int)) = true := beq_iff_eq.2 (by omega)
                  by_cases h3 : y2 < x2
                  · have d3 : decide (y2 < x2) = true := decide_eq_true h3
                    have HBM := move (Or.inr ⟨h2, h3⟩)
                    clear stay move h2
                    go_wp2_with fail
                    go_quiet (fail)
                    go_wp2
                    go_roundg (mh - (j + 1))
                    case measure => omega
                    case rel => exact ⟨j, j + 1, rfl, by go_num, by omega, hjm, HBM, HDR _⟩
                  · have d3 : decide (y2 < x2) = false := decide_eq_false h3
                    have HBM := stay (by unfold ltH; simp only; omega)
                    clear stay move h2
                    go_wp2_with fail
                    go_quiet (fail)
                    go_wp2
                    go_roundg (mh - (j + 1))
                    case measure => omega
                    case rel => exact ⟨k, j + 1, rfl, by go_num, by omega, hkm, HBM, HDR _⟩
                · have d2 : ((y1 : Int) == (x1 : Int)) = false := beq_eq_false_iff_ne.2 (by omega)
                  have HBM := stay (by unfold ltH; simp only; omega)
                  clear stay move h2
                  go_wp2_with fail
                  go_quiet (fail)
                  go_wp2
                  go_roundg (mh - (j + 1))
                  case measure => omega
                  case rel => exact ⟨k, j + 1, rfl, by go_num, by omega, hkm, HBM, HDR _⟩
          · obtain rfl : j = mh := by omega
            have hjz : ¬ (j : Int) < (j : Int) := by omega
            obtain ⟨a0, a1⟩ := HRH.out.hd hx
            rw [Nat.zero_add] at a0 a1
            have c0 : wr.cell? ⟨gh, k * 2, none⟩ = some (.int .i64 x1) := by obtain ⟨q, hq⟩ := HQ.out; rw [hq]; exact a0
            have c1 : wr.cell? ⟨gh, k * 2 + 1, none⟩ = some (.int .i64 x2) := by obtain ⟨q, hq⟩ := HQ.out; rw [hq]; exact a1
            have hfirst : FirstH S (x1, x2) := BestK.first (by rw [← HNM.out.2]; exact HBK.out) hx
            have HF := hidp hfirst
            have HX := hidp hx
            have HPUT := hidp (HD.out.run.put HR.out hfirst)
            have HM2 : Hid (DocM w wr (.slice po no co) (.slice (some ⟨gh, 0, none⟩) j ch) (rowsR pre) S ss fr) := by
              obtain ⟨q, hq⟩ := HQ.out
              rw [hq]
              exact HM.out.below (below_drewN (Below.refl _ _) q)
            clear a0 a1 hx hfirst HQ HB0 HBK HRH HM
            go_wp2_with fail
            have b0 : (wr.alloc (.cells #[.int .i64 x1, .int .i64 x2] 64)).cell? ⟨wr.heap.size, 0, none⟩ = some (.int .i64 x1) := by simp
            have b1 : (wr.alloc (.cells #[.int .i64 x1, .int .i64 x2] 64)).cell? ⟨wr.heap.size, 1, none⟩ = some (.int .i64 x2) := by simp
            have HBW : Hid (Below wr.heap.size wr (wr.alloc (.cells #[.int .i64 x1, .int .i64 x2] 64))) := (Below.refl _ wr).alloc (Nat.le_refl _) _
            have HM3 := hidp (HM2.out.below HBW.out)
            have d0 := (HBW.out.cell (p := ⟨gh, k * 2, none⟩) (lt_of_cellQ c0)).trans c0
            have HXF : Hid (wr.heap.size ∉ fr) := fun q => by have := HM2.out.rows.lt _ q; omega
            have HXG : Hid (wr.heap.size ≠ gh) := fun q => by have := lt_of_cellQ c0; omega
            have HXW : Hid (w.heap.size ≤ wr.heap.size) := HM2.out.bl.size
            clear c0 c1 d0
            generalize wr.alloc (.cells #[.int .i64 x1, .int .i64 x2] 64) = Wb at b0 b1 HBW HM3 ⊢
            generalize wr.heap.size = xb at b0 b1 HXF HXG HXW ⊢
            go_loopg [5] 1 (fun g3 v5 W => ∃ (po : Option Addr) (no co : Nat) (rows : List (List Int)) (ss : List Sv) (fr : List Nat), v5 = .slice po no co ∧ x1 + 1 ≤ no + g3 ∧ no ≤ 61 ∧ W.cell? ⟨xb, 0, none⟩ = some (.int .i64 x1) ∧ W.cell? ⟨xb, 1, none⟩ = some (.int .i64 x2) ∧
              Hid (no = rows.length) ∧ Hid (rows = rowsR pre ∨ (rows = rowsR pre ++ [[]] ∧ x1 = (rowsR pre).length)) ∧ Hid (xb ∉ fr) ∧ Hid (DocM w W (.slice po no co) (.slice (some ⟨gh, 0, none⟩) j ch) rows S ss fr))
            case atStart => exact ⟨po, no, co, rowsR pre, ss, fr, rfl, by have h1 := HPUT.out.1; have h2 := HNM.out.1; rw [← h2] at h1; have h3 : x1 ≤ no := h1; omega, by omega, b0, b1, (show Hid _ from HNM.out.1), (show Hid _ from Or.inl rfl), HXF, HM3⟩
            case round =>
              obtain ⟨po2, no2, co2, rows, ss2, fr2, rfl, hx1, hn61, b0, b1, HRL, HRW, HXF2, HM4⟩ := hrel
              by_cases hle : no2 ≤ x1
              · as_aux_lemma =>
                  have hlez : (no2 : Int) ≤ (x1 : Int) := by omega
                  have HEQ : Hid (rows = rowsR pre ∧ x1 = rows.length) := by
                    have h1 := HPUT.out.1
                    have h2 := HRL.out
                    rcases HRW.out with e | ⟨e, e2⟩
                    · refine ⟨e, ?_⟩
                      rw [← e, ← h2] at h1
                      have h3 : x1 ≤ no2 := h1
                      omega
                    · rw [e, List.length_append, List.length_singleton, ← e2] at h2
                      omega
                  have HOA := hidp (HM4.out.rows.own.alloc (.cells #[.slice none 0 0] 22))
                  have HNEW := hidp (newVnil wr)
                  have HSZ : Hid (ss2.length ≤ 100000) := by show _ ≤ _; rw [HM4.out.rows.len, ← HRL.out]; omega
                  have HBA : Hid (Below wr.heap.size wr (wr.alloc (.cells #[.slice none 0 0] 22))) := (Below.refl _ wr).alloc (Nat.le_refl _) _
                  go_wp2_with (at_builtin; refine wpList_appendE EV rfl (.tmp 93) (.tmp 94) rfl 0 _ ss2 (none, 0, 0) ⟨wr.heap.size, 0, none⟩ 1 rfl HOA.out rfl HNEW.out HSZ.out (Nat.zero_le _) ?_; intro v1 w1 a1 a2 a3; have A1 := hidp a1; have A2 := hidp a2; have A3 := hidp a3; clear a1 a2 a3)
                  obtain ⟨p1, k1, hv1⟩ := OwnE.form A1.out
                  obtain ⟨hR1, hS1⟩ := RowsS.more HM4.out.rows HM4.out.nd HBA.out A1.out A2.out A3.out
                  have hnl : (ss2 ++ [((none, 0, 0) : Sv)]).length = no2 + 1 := by rw [List.length_append, HM4.out.rows.len, ← HRL.out]; rfl
                  rw [hnl] at hv1
                  subst hv1
                  have HM5 := hidp (HM4.out.rowed hR1 hS1)
                  have e0 := cell_step hS1 HXF2.out b0
                  have e1 := cell_step hS1 HXF2.out b1
                  have HXF3 := hidp (notin_step hS1 HXF2.out (lt_of_cellQ b0))
                  clear hR1 hS1 A1 A2 A3 b0 b1 hnl
                  go_roundg 0
                  case measure => omega
                  case rel =>
                    exact ⟨p1, no2 + 1, k1, rows ++ [[]], _, _, rfl, by have h7 := HEQ.out.2; have h8 := HRL.out; omega, by have h6 : no2 = no := HRL.out.trans ((congrArg List.length HEQ.out.1).trans HNM.out.1.symm); omega, e0, e1, (show Hid _ from (by show _ = _; rw [List.length_append, ← HRL.out]; rfl)), (show Hid _ from Or.inr ⟨by rw [HEQ.out.1], by rw [← HEQ.out.1]; exact HEQ.out.2⟩), HXF3, HM5⟩
              ·
                  have hlez : ¬ (no2 : Int) ≤ (x1 : Int) := by omega
                  have hxz : (x1 : Int) < (no2 : Int) := by omega
                  obtain ⟨gr, kr, er, _⟩ := own_someE (n := no2) HM4.out.rows.own (HM4.out.rows.len.trans HRL.out.symm) (by omega)
                  simp only [Value.slice.injEq] at er
                  obtain ⟨rfl, _, rfl⟩ := er
                  obtain ⟨⟨q1, k1, cc1⟩, hs⟩ : ∃ s, ss2[x1]? = some s := ⟨_, List.getElem?_eq_getElem (by rw [HM4.out.rows.len, ← HRL.out]; omega)⟩
                  obtain ⟨r1, hr1, hor⟩ := HM4.out.rows.rowOf hs
                  obtain ⟨cs, fs, hgl⟩ := HM4.out.rows.own.cellE hs (c := 0) (v := .slice q1 k1 cc1) rfl
                  simp only [EV, Nat.mul_one, Nat.add_zero] at cs fs
                  have HSET : Hid (rows.set x1 (r1 ++ [x2]) = rowsR (pre ++ [(x1, x2)])) := by
                    show _ = _
                    have h1 := HPUT.out.2
                    rcases HRW.out with e | ⟨e, e2⟩
                    · rw [← h1]
                      unfold putR
                      have h2 := HRL.out
                      rw [← e, if_neg (by show ¬ x1 = rows.length; omega)]
                      show _ = rows.set x1 (rows.getD x1 [] ++ [x2])
                      rw [List.getD_eq_getElem?_getD, hr1]; rfl
                    · have h3 : r1 = [] := by
                        rw [e, List.getElem?_append_right (by omega), e2, Nat.sub_self] at hr1
                        cases hr1; rfl
                      rw [← h1, e, h3]
                      show (rowsR pre ++ [[]]).set x1 ([] ++ [x2]) = putR (rowsR pre) x1 x2
                      rw [e2]
                      exact putR_new
                  have HOL : Hid (OwnE EZ wr 0 (.slice q1 k1 cc1) r1) := hor
                  have HS := hidp hs
                  have HR1 := hidp hr1
                  have HLEN : Hid (r1.length ≤ 100000) := by
                    show _ ≤ _
                    have h5 := (HD.out.run.lens HR.out (by have := List.length_take_le i l; omega)).2.1
                    rcases HRW.out with e | ⟨e, e2⟩
                    · have := h5 x1 r1 (by rw [← e]; exact hr1); omega
                    · rw [e, List.getElem?_append_right (by omega), e2, Nat.sub_self] at hr1
                      cases hr1; exact Nat.zero_le _
                  have hxl := lt_of_cellQ b0
                  have hself : ∀ jj, some jj = (svV (q1, k1, cc1)).ownBlock → jj = xb → False := fun jj e e2 => by
                    subst e2
                    refine HXF2.out ?_
                    rw [HM4.out.rows.bf]
                    exact List.mem_append_right _ (mem_blks hs (by unfold blkS; rw [← e]; simp))
                  have HSELF := hidp hself
                  have HBX : Hid (∀ (i : Nat) (u : Value) (W : World), ((wr.alloc (.cells #[.int .i64 x2] 3)).drewN 1).grownBy W (Value.slice q1 k1 cc1).ownBlock → wr.cell? ⟨xb, i, none⟩ = some u → W.cell? ⟨xb, i, none⟩ = some u) := fun i u W hg hc =>
                    (World.cell?_of_block (a := ⟨xb, i, none⟩) (hg.block xb (by simp; omega) (fun e => HSELF.out _ e rfl))).trans ((World.cell?_of_block (a := ⟨xb, i, none⟩) (Below.heap_alloc wr _ _ hxl)).trans hc)
                  clear hs hr1 hor hself
                  have hgx : gr ≠ xb := fun e => HXF2.out (by rw [HM4.out.rows.bf, ← e]; exact List.mem_append_left _ (by simp [Value.ownBlock]))
                  go_upto_region 17 with fail
                  go_cut [] from 11 to 152 (fun wx => ∃ (ss3 : List Sv) (fr3 : List Nat), Hid (DocM w wx (.slice (some ⟨gr, 0, none⟩) no2 co2) (.slice (some ⟨gh, 0, none⟩) j ch) (rowsR (pre ++ [(x1, x2)])) S ss3 fr3) ∧ wx.cell? ⟨xb, 0, none⟩ = some (.int .i64 x1) ∧ wx.cell? ⟨xb, 1, none⟩ = some (.int .i64 x2) ∧ Hid (xb ∉ fr3))
                  case first =>
                      go_wp2_with fail
                      go_region_law (refine step_appendQ EZ (by rfl) (.tmp 103) (.tmp 106) (by rfl) 0 (.slice q1 k1 cc1) r1 x2 ⟨wr.heap.size, 0, none⟩ 1 (by rfl) (OwnE.drewN (OwnE.alloc HOL.out _) 1) (by rfl) (newZ wr _ rfl _) HLEN.out (Nat.zero_le _) ?_; intro v1 w1 a1 a2 a3; obtain ⟨p1, n1, hv1⟩ := OwnE.form a1; rw [List.length_append, List.length_singleton] at hv1; subst hv1; obtain ⟨f', hR, hSt, cc, fc⟩ := RowsS.put HM4.out.rows HM4.out.nd (s1 := (p1, r1.length + 1, n1)) (below_drewN ((Below.refl _ wr).alloc (Nat.le_refl _) _) 1) HS.out HR1.out a1 a2 a3; have HR2 := hidp hR; have HST := hidp hSt; have x0 : w1.cell? ⟨gr, x1, none⟩ = some (.slice q1 k1 cc1) := cc; have y0 := HBX.out 0 _ _ a2 b0; have y1 := HBX.out 1 _ _ a2 b1; clear a1 a2 a3 hR hSt cc)
                      all_goals as_aux_lemma =>
                        go_wp2_with fail
                        go_meet
                        case rel =>
                          have hD := HM4.out.rowed HR2.out HST.out
                          rw [HSET.out] at hD
                          exact ⟨_, f', hD, cell_step HST.out HXF2.out b0, cell_step HST.out HXF2.out b1, notin_step HST.out HXF2.out (lt_of_cellQ b0)⟩
                  case rest =>
                    as_aux_lemma =>
                      have HNO : Hid (no2 = (rowsR (pre ++ [(x1, x2)])).length) := by
                        show _ = _
                        rw [← HSET.out, List.length_set]; exact HRL.out
                      clear HM4 HXF2 HRL HRW HOL HS HR1 HLEN HSELF HBX cs fs hxl b0 b1 HSET hgl
                      obtain ⟨ss3, fr3, HM6, b0, b1, HXF6⟩ := hcut
                      obtain ⟨gq, kq, eq, hgq0, _, hrq, hfq⟩ := HM6.out.own.some HNM.out.2.symm hm0
                      simp only [Value.slice.injEq, Option.some.injEq, Addr.mk.injEq] at eq
                      obtain ⟨⟨rfl, -⟩, -⟩ := eq
                      obtain ⟨h0, h1⟩ := hrq.hd HX.out
                      rw [Nat.zero_add] at h0 h1
                      have hf0 := hfq (k * 2)
                      have hf1 := hfq (k * 2 + 1)
                      have hxg : xb ≠ gh := HXG.out
                      have hgl := hrq.1
                      have ca := (HRD.out.below HM6.out.bl HRD.out.1).int HCC.out
                      have hbg : bl ≠ gh := by have := HRD.out.1; omega
                      have hx60 : x1 ≤ 61 := by omega
                      have hxw : IntKind.i64.wrap ((x1 : Int) + 1) = (x1 : Int) + 1 := by rw [IntKind.wrap_i64]; omega
                      have HSW := hidp (HD.out.swap HR.out (c := c) (by rw [← HNM.out.2]; exact hroom) HX.out HF.out)
                      rw [← HC2.out] at HSW
                      clear hrq hfq
                      go_wp2_with fail
                      go_region_held3 (fun w' => w'.cell? ⟨xb, 0, none⟩ = some (.int .i64 x1) ∧ w'.cell? ⟨bl, ol + i, none⟩ = some (.int .i64 c)) (first | (refine ⟨?_, ?_⟩ <;> (try simp only [World.cell?_drew]) <;> first | assumption | exact keepH2 b0 hxg | exact keepH2 ca hbg) | go_keep) (fail)
                      have own9 := OwnE.drewN (HM6.out.own.setE hkm (x1, c)) 1
                      have ch9 : Chg (fun q => some q = (Value.slice (some ⟨gh, 0, none⟩) j ch).ownBlock) wc (((wc.setCell ⟨gh, k * 2, none⟩ (.int .i64 x1)).setCell ⟨gh, k * 2 + 1, none⟩ (.int .i64 c)).drewN 1) := (((Chg.refl (fun q => some q = (Value.slice (some ⟨gh, 0, none⟩) j ch).ownBlock) wc).setCell (p := ⟨gh, k * 2, none⟩) (Or.inl rfl) _).setCell (p := ⟨gh, k * 2 + 1, none⟩) (Or.inl rfl) _).dn 1
                      have HM9 : Hid (DocM w (((wc.setCell ⟨gh, k * 2, none⟩ (.int .i64 x1)).setCell ⟨gh, k * 2 + 1, none⟩ (.int .i64 c)).drewN 1) (.slice (some ⟨gr, 0, none⟩) no2 co2) (.slice (some ⟨gh, 0, none⟩) j ch) (rowsR (pre ++ [(x1, x2)])) (S.set k (x1, c)) ss3 fr3) := HM6.out.held own9 ch9 (Or.inl rfl)
                      have b19 : (((wc.setCell ⟨gh, k * 2, none⟩ (.int .i64 x1)).setCell ⟨gh, k * 2 + 1, none⟩ (.int .i64 c)).drewN 1).cell? ⟨xb, 1, none⟩ = some (.int .i64 x2) := by rw [World.cell?_drewN]; exact keepH2 b1 hxg
                      have b09 : (((wc.setCell ⟨gh, k * 2, none⟩ (.int .i64 x1)).setCell ⟨gh, k * 2 + 1, none⟩ (.int .i64 c)).drewN 1).cell? ⟨xb, 0, none⟩ = some (.int .i64 x1) := by rw [World.cell?_drewN]; exact keepH2 b0 hxg
                      have ca9 : (((wc.setCell ⟨gh, k * 2, none⟩ (.int .i64 x1)).setCell ⟨gh, k * 2 + 1, none⟩ (.int .i64 c)).drewN 1).cell? ⟨bl, ol + i, none⟩ = some (.int .i64 c) := by rw [World.cell?_drewN]; exact keepH2 ca hbg
                      clear own9 ch9 HM6 h0 h1 hf0 hf1 b0 b1 ca
                      have ew9 : ((wc.setCell ⟨gh, k * 2, none⟩ (.int .i64 x1)).setCell ⟨gh, k * 2 + 1, none⟩ (.int .i64 c)).drewN 1 = ((wc.setCell ⟨gh, k * 2, none⟩ (.int .i64 x1)).setCell ⟨gh, k * 2 + 1, none⟩ (.int .i64 c)).drew := rfl
                      rw [ew9] at HM9 b19 b09 ca9
                      clear ew9
                      generalize ((wc.setCell ⟨gh, k * 2, none⟩ (.int .i64 x1)).setCell ⟨gh, k * 2 + 1, none⟩ (.int .i64 c)).drew = w9 at HM9 b19 b09 ca9 ⊢
                      have hSk : (S.set k ((x1, c) : Hd))[k]? = some (x1, c) := by rw [List.getElem?_set_self (by rw [← HNM.out.2]; exact hkm)]
                      obtain ⟨gq, kq, eq, hgq0, _, hrq, hfq⟩ := HM9.out.own.some (n := j) (by rw [List.length_set]; exact HNM.out.2.symm) hm0
                      simp only [Value.slice.injEq, Option.some.injEq, Addr.mk.injEq] at eq
                      obtain ⟨⟨rfl, -⟩, -⟩ := eq
                      obtain ⟨h0, _⟩ := hrq.hd hSk
                      rw [Nat.zero_add] at h0
                      have hf0 := hfq (k * 2)
                      have hgl9 := hrq.1
                      have HSK := hidp hSk
                      have hl60 := (HSW.out.run.lens HR.out (by have := List.length_take_le (i + 1) l; omega)).1
                      rw [← HNO.out] at hl60
                      clear hrq hfq hSk
                      by_cases hcx : c < x2
                      · have hnew : newH (x1, x2) c = (x1 + 1, c) := by unfold newH; rw [if_pos hcx]
                        have hdc : decide (c < x2) = true := decide_eq_true hcx
                        rw [hnew] at HSW
                        clear hnew
                        go_wp2_with fail
                        go_quiet (fail)
                        have HMA : Hid (DocM w ((w9.drewN nq).setCell ⟨gh, k * 2, none⟩ (.int .i64 ((x1 : Int) + 1))) (.slice (some ⟨gr, 0, none⟩) no2 co2) (.slice (some ⟨gh, 0, none⟩) j ch) (rowsR (pre ++ [(x1, x2)])) (S.set k (x1 + 1, c)) ss3 fr3) := by
                          have o1 := OwnE.setRun (OwnE.drewN HM9.out.own nq) (a' := x1 + 1) HSK.out hkm
                          rw [List.set_set] at o1
                          exact HM9.out.held o1 (((Chg.refl (fun q => some q = (Value.slice (some ⟨gh, 0, none⟩) j ch).ownBlock) w9).dn nq).setCell (p := ⟨gh, k * 2, none⟩) (Or.inl rfl) _) (Or.inl rfl)
                        go_wp2
                        go_roundg (2 * (n - (i + 1)) + j)
                        case measure => omega
                        case rel => exact ⟨some ⟨gr, 0, none⟩, some ⟨gh, 0, none⟩, no2, co2, j, ch, i + 1, _, _, ss3, fr3, rfl, rfl, by go_num, by omega, by omega, hl60, hmh, (show Hid _ from ⟨HNO.out, by rw [List.length_set]; exact HNM.out.2⟩), HSW, HMA⟩
                      · have hnew : newH (x1, x2) c = (x1, c) := by unfold newH; rw [if_neg hcx]
                        have hdc : decide (c < x2) = false := decide_eq_false hcx
                        rw [hnew] at HSW
                        clear hnew
                        go_wp2_with fail
                        go_quiet (fail)
                        have HMA := hidp (HM9.out.below (below_drewN (Below.refl _ w9) nq))
                        go_wp2
                        go_roundg (2 * (n - (i + 1)) + j)
                        case measure => omega
                        case rel => exact ⟨some ⟨gr, 0, none⟩, some ⟨gh, 0, none⟩, no2, co2, j, ch, i + 1, _, _, ss3, fr3, rfl, rfl, by go_num, by omega, by omega, hl60, hmh, (show Hid _ from ⟨HNO.out, by rw [List.length_set]; exact HNM.out.2⟩), HSW, HMA⟩
    · have hiz : ¬ (i : Int) < (n : Int) := by omega
      have hdrop : l.drop i = [] := List.drop_eq_nil_of_le (by have := HN.out; omega)
      rw [hdrop] at HD
      have HDR0 := hidp hdrop
      clear hdrop
      by_cases hm0 : 0 < mh
      · have hmd : decide (0 < mh) = true := decide_eq_true hm0
        have hm0z : (0 : Int) < (mh : Int) := by omega
        obtain ⟨gh, kh, eh, hgh0, hghc, hrh, hfh⟩ := HM.out.own.some HNM.out.2.symm hm0
        simp only [Value.slice.injEq] at eh
        obtain ⟨rfl, _, rfl⟩ := eh
        have HRH := hidp hrh
        have HFH := hidp hfh
        have HB0 : Hid (BestK S 0 0) := BestK.one (by rw [← HNM.out.2]; exact hm0)
        clear hrh hfh
        obtain ⟨W0, hW0⟩ : ∃ W0, W0 = wr := ⟨_, rfl⟩
        subst hW0
        go_wp2
        go_loopg [8, 9] mh (fun g2 v8 v9 W => ∃ (k j : Nat), v8 = .int .i64 k ∧ v9 = .int .i64 j ∧ j + g2 = mh ∧ k < mh ∧ Hid (BestK S j k) ∧ Hid (∃ q, W = W0.drewN q))
        case atStart => exact ⟨0, 0, rfl, rfl, by omega, hm0, HB0, (show Hid _ from ⟨0, rfl⟩)⟩
        case round =>
          obtain ⟨k, j, rfl, rfl, hjg, hkm, HBK, HQ⟩ := hrel
          obtain ⟨⟨x1, x2⟩, hx⟩ : ∃ x, S[k]? = some x := ⟨_, List.getElem?_eq_getElem (by rw [← HNM.out.2]; exact hkm)⟩
          have hkz : (k : Int) < (mh : Int) := by omega
          by_cases hjm : j < mh
          · as_aux_lemma =>
              have hjz : (j : Int) < (mh : Int) := by omega
              obtain ⟨⟨y1, y2⟩, hy⟩ : ∃ x, S[j]? = some x := ⟨_, List.getElem?_eq_getElem (by rw [← HNM.out.2]; exact hjm)⟩
              obtain ⟨a0, a1⟩ := HRH.out.hd hx
              obtain ⟨b0, b1⟩ := HRH.out.hd hy
              rw [Nat.zero_add] at a0 a1 b0 b1
              have c0 : wr.cell? ⟨gh, k * 2, none⟩ = some (.int .i64 x1) := by obtain ⟨q, hq⟩ := HQ.out; rw [hq]; exact a0
              have c1 : wr.cell? ⟨gh, k * 2 + 1, none⟩ = some (.int .i64 x2) := by obtain ⟨q, hq⟩ := HQ.out; rw [hq]; exact a1
              have c2 : wr.cell? ⟨gh, j * 2, none⟩ = some (.int .i64 y1) := by obtain ⟨q, hq⟩ := HQ.out; rw [hq]; exact b0
              have c3 : wr.cell? ⟨gh, j * 2 + 1, none⟩ = some (.int .i64 y2) := by obtain ⟨q, hq⟩ := HQ.out; rw [hq]; exact b1
              have HX := hidp hx
              have HY := hidp hy
              clear a0 a1 b0 b1 hx hy
              have HDR : ∀ nq, Hid (∃ q, wr.drewN nq = W0.drewN q) := fun nq => by obtain ⟨q, hq⟩ := HQ.out; exact ⟨_, by rw [hq, World.drewN_drewN]⟩
              have stay : ¬ ltH (y1, y2) (x1, x2) → Hid (BestK S (j + 1) k) := fun q => HBK.out.stay HX.out HY.out q
              have move : ltH (y1, y2) (x1, x2) → Hid (BestK S (j + 1) j) := fun q => HBK.out.move HX.out HY.out q
              by_cases h1 : y1 < x1
              · have d1 : (y1 : Int) < (x1 : Int) := by omega
                have d1' : decide ((y1 : Int) < (x1 : Int)) = true := decide_eq_true d1
                have HBM := move (Or.inl h1)
                clear stay move
                go_wp2_with fail
                go_quiet (fail)
                go_wp2
                go_roundg (mh - (j + 1))
                case measure => omega
                case rel => exact ⟨j, j + 1, rfl, by go_num, by omega, hjm, HBM, HDR _⟩
              · have d1 : ¬ (y1 : Int) < (x1 : Int) := by omega
                have d1' : decide ((y1 : Int) < (x1 : Int)) = false := decide_eq_false d1
                by_cases h2 : y1 = x1
                · have d2 : ((y1 : Int) == (x1 : Int)) = true := beq_iff_eq.2 (by omega)
                  by_cases h3 : y2 < x2
                  · have d3 : decide (y2 < x2) = true := decide_eq_true h3
                    have HBM := move (Or.inr ⟨h2, h3⟩)
                    clear stay move h2
                    go_wp2_with fail
                    go_quiet (fail)
                    go_wp2
                    go_roundg (mh - (j + 1))
                    case measure => omega
                    case rel => exact ⟨j, j + 1, rfl, by go_num, by omega, hjm, HBM, HDR _⟩
                  · have d3 : decide (y2 < x2) = false := decide_eq_false h3
                    have HBM := stay (by unfold ltH; simp only; omega)
                    clear stay move h2
                    go_wp2_with fail
                    go_quiet (fail)
                    go_wp2
                    go_roundg (mh - (j + 1))
                    case measure => omega
                    case rel => exact ⟨k, j + 1, rfl, by go_num, by omega, hkm, HBM, HDR _⟩
                · have d2 : ((y1 : Int) == (x1 : Int)) = false := beq_eq_false_iff_ne.2 (by omega)
                  have HBM := stay (by unfold ltH; simp only; omega)
                  clear stay move h2
                  go_wp2_with fail
                  go_quiet (fail)
                  go_wp2
                  go_roundg (mh - (j + 1))
                  case measure => omega
                  case rel => exact ⟨k, j + 1, rfl, by go_num, by omega, hkm, HBM, HDR _⟩
          · obtain rfl : j = mh := by omega
            have hjz : ¬ (j : Int) < (j : Int) := by omega
            obtain ⟨a0, a1⟩ := HRH.out.hd hx
            rw [Nat.zero_add] at a0 a1
            have c0 : wr.cell? ⟨gh, k * 2, none⟩ = some (.int .i64 x1) := by obtain ⟨q, hq⟩ := HQ.out; rw [hq]; exact a0
            have c1 : wr.cell? ⟨gh, k * 2 + 1, none⟩ = some (.int .i64 x2) := by obtain ⟨q, hq⟩ := HQ.out; rw [hq]; exact a1
            have hfirst : FirstH S (x1, x2) := BestK.first (by rw [← HNM.out.2]; exact HBK.out) hx
            have HF := hidp hfirst
            have HX := hidp hx
            have HPUT := hidp (HD.out.run.put HR.out hfirst)
            have HM2 : Hid (DocM w wr (.slice po no co) (.slice (some ⟨gh, 0, none⟩) j ch) (rowsR pre) S ss fr) := by
              obtain ⟨q, hq⟩ := HQ.out
              rw [hq]
              exact HM.out.below (below_drewN (Below.refl _ _) q)
            clear a0 a1 hx hfirst HQ HB0 HBK HRH HM
            go_wp2_with fail
            have b0 : (wr.alloc (.cells #[.int .i64 x1, .int .i64 x2] 64)).cell? ⟨wr.heap.size, 0, none⟩ = some (.int .i64 x1) := by simp
            have b1 : (wr.alloc (.cells #[.int .i64 x1, .int .i64 x2] 64)).cell? ⟨wr.heap.size, 1, none⟩ = some (.int .i64 x2) := by simp
            have HBW : Hid (Below wr.heap.size wr (wr.alloc (.cells #[.int .i64 x1, .int .i64 x2] 64))) := (Below.refl _ wr).alloc (Nat.le_refl _) _
            have HM3 := hidp (HM2.out.below HBW.out)
            have d0 := (HBW.out.cell (p := ⟨gh, k * 2, none⟩) (lt_of_cellQ c0)).trans c0
            have HXF : Hid (wr.heap.size ∉ fr) := fun q => by have := HM2.out.rows.lt _ q; omega
            have HXG : Hid (wr.heap.size ≠ gh) := fun q => by have := lt_of_cellQ c0; omega
            have HXW : Hid (w.heap.size ≤ wr.heap.size) := HM2.out.bl.size
            clear c0 c1 d0
            generalize wr.alloc (.cells #[.int .i64 x1, .int .i64 x2] 64) = Wb at b0 b1 HBW HM3 ⊢
            generalize wr.heap.size = xb at b0 b1 HXF HXG HXW ⊢
            go_loopg [5] 1 (fun g3 v5 W => ∃ (po : Option Addr) (no co : Nat) (rows : List (List Int)) (ss : List Sv) (fr : List Nat), v5 = .slice po no co ∧ x1 + 1 ≤ no + g3 ∧ no ≤ 61 ∧ W.cell? ⟨xb, 0, none⟩ = some (.int .i64 x1) ∧ W.cell? ⟨xb, 1, none⟩ = some (.int .i64 x2) ∧
              Hid (no = rows.length) ∧ Hid (rows = rowsR pre ∨ (rows = rowsR pre ++ [[]] ∧ x1 = (rowsR pre).length)) ∧ Hid (xb ∉ fr) ∧ Hid (DocM w W (.slice po no co) (.slice (some ⟨gh, 0, none⟩) j ch) rows S ss fr))
            case atStart => exact ⟨po, no, co, rowsR pre, ss, fr, rfl, by have h1 := HPUT.out.1; have h2 := HNM.out.1; rw [← h2] at h1; have h3 : x1 ≤ no := h1; omega, by omega, b0, b1, (show Hid _ from HNM.out.1), (show Hid _ from Or.inl rfl), HXF, HM3⟩
            case round =>
              obtain ⟨po2, no2, co2, rows, ss2, fr2, rfl, hx1, hn61, b0, b1, HRL, HRW, HXF2, HM4⟩ := hrel
              by_cases hle : no2 ≤ x1
              · as_aux_lemma =>
                  have hlez : (no2 : Int) ≤ (x1 : Int) := by omega
                  have HEQ : Hid (rows = rowsR pre ∧ x1 = rows.length) := by
                    have h1 := HPUT.out.1
                    have h2 := HRL.out
                    rcases HRW.out with e | ⟨e, e2⟩
                    · refine ⟨e, ?_⟩
                      rw [← e, ← h2] at h1
                      have h3 : x1 ≤ no2 := h1
                      omega
                    · rw [e, List.length_append, List.length_singleton, ← e2] at h2
                      omega
                  have HOA := hidp (HM4.out.rows.own.alloc (.cells #[.slice none 0 0] 22))
                  have HNEW := hidp (newVnil wr)
                  have HSZ : Hid (ss2.length ≤ 100000) := by show _ ≤ _; rw [HM4.out.rows.len, ← HRL.out]; omega
                  have HBA : Hid (Below wr.heap.size wr (wr.alloc (.cells #[.slice none 0 0] 22))) := (Below.refl _ wr).alloc (Nat.le_refl _) _
                  go_wp2_with (at_builtin; refine wpList_appendE EV rfl (.tmp 93) (.tmp 94) rfl 0 _ ss2 (none, 0, 0) ⟨wr.heap.size, 0, none⟩ 1 rfl HOA.out rfl HNEW.out HSZ.out (Nat.zero_le _) ?_; intro v1 w1 a1 a2 a3; have A1 := hidp a1; have A2 := hidp a2; have A3 := hidp a3; clear a1 a2 a3)
                  obtain ⟨p1, k1, hv1⟩ := OwnE.form A1.out
                  obtain ⟨hR1, hS1⟩ := RowsS.more HM4.out.rows HM4.out.nd HBA.out A1.out A2.out A3.out
                  have hnl : (ss2 ++ [((none, 0, 0) : Sv)]).length = no2 + 1 := by rw [List.length_append, HM4.out.rows.len, ← HRL.out]; rfl
                  rw [hnl] at hv1
                  subst hv1
                  have HM5 := hidp (HM4.out.rowed hR1 hS1)
                  have e0 := cell_step hS1 HXF2.out b0
                  have e1 := cell_step hS1 HXF2.out b1
                  have HXF3 := hidp (notin_step hS1 HXF2.out (lt_of_cellQ b0))
                  clear hR1 hS1 A1 A2 A3 b0 b1 hnl
                  go_roundg 0
                  case measure => omega
                  case rel =>
                    exact ⟨p1, no2 + 1, k1, rows ++ [[]], _, _, rfl, by have h7 := HEQ.out.2; have h8 := HRL.out; omega, by have h6 : no2 = no := HRL.out.trans ((congrArg List.length HEQ.out.1).trans HNM.out.1.symm); omega, e0, e1, (show Hid _ from (by show _ = _; rw [List.length_append, ← HRL.out]; rfl)), (show Hid _ from Or.inr ⟨by rw [HEQ.out.1], by rw [← HEQ.out.1]; exact HEQ.out.2⟩), HXF3, HM5⟩
              ·
                  have hlez : ¬ (no2 : Int) ≤ (x1 : Int) := by omega
                  have hxz : (x1 : Int) < (no2 : Int) := by omega
                  obtain ⟨gr, kr, er, _⟩ := own_someE (n := no2) HM4.out.rows.own (HM4.out.rows.len.trans HRL.out.symm) (by omega)
                  simp only [Value.slice.injEq] at er
                  obtain ⟨rfl, _, rfl⟩ := er
                  obtain ⟨⟨q1, k1, cc1⟩, hs⟩ : ∃ s, ss2[x1]? = some s := ⟨_, List.getElem?_eq_getElem (by rw [HM4.out.rows.len, ← HRL.out]; omega)⟩
                  obtain ⟨r1, hr1, hor⟩ := HM4.out.rows.rowOf hs
                  obtain ⟨cs, fs, hgl⟩ := HM4.out.rows.own.cellE hs (c := 0) (v := .slice q1 k1 cc1) rfl
                  simp only [EV, Nat.mul_one, Nat.add_zero] at cs fs
                  have HSET : Hid (rows.set x1 (r1 ++ [x2]) = rowsR (pre ++ [(x1, x2)])) := by
                    show _ = _
                    have h1 := HPUT.out.2
                    rcases HRW.out with e | ⟨e, e2⟩
                    · rw [← h1]
                      unfold putR
                      have h2 := HRL.out
                      rw [← e, if_neg (by show ¬ x1 = rows.length; omega)]
                      show _ = rows.set x1 (rows.getD x1 [] ++ [x2])
                      rw [List.getD_eq_getElem?_getD, hr1]; rfl
                    · have h3 : r1 = [] := by
                        rw [e, List.getElem?_append_right (by omega), e2, Nat.sub_self] at hr1
                        cases hr1; rfl
                      rw [← h1, e, h3]
                      show (rowsR pre ++ [[]]).set x1 ([] ++ [x2]) = putR (rowsR pre) x1 x2
                      rw [e2]
                      exact putR_new
                  have HOL : Hid (OwnE EZ wr 0 (.slice q1 k1 cc1) r1) := hor
                  have HS := hidp hs
                  have HR1 := hidp hr1
                  have HLEN : Hid (r1.length ≤ 100000) := by
                    show _ ≤ _
                    have h5 := (HD.out.run.lens HR.out (by have := List.length_take_le i l; omega)).2.1
                    rcases HRW.out with e | ⟨e, e2⟩
                    · have := h5 x1 r1 (by rw [← e]; exact hr1); omega
                    · rw [e, List.getElem?_append_right (by omega), e2, Nat.sub_self] at hr1
                      cases hr1; exact Nat.zero_le _
                  have hxl := lt_of_cellQ b0
                  have hself : ∀ jj, some jj = (svV (q1, k1, cc1)).ownBlock → jj = xb → False := fun jj e e2 => by
                    subst e2
                    refine HXF2.out ?_
                    rw [HM4.out.rows.bf]
                    exact List.mem_append_right _ (mem_blks hs (by unfold blkS; rw [← e]; simp))
                  have HSELF := hidp hself
                  have HBX : Hid (∀ (i : Nat) (u : Value) (W : World), ((wr.alloc (.cells #[.int .i64 x2] 3)).drewN 1).grownBy W (Value.slice q1 k1 cc1).ownBlock → wr.cell? ⟨xb, i, none⟩ = some u → W.cell? ⟨xb, i, none⟩ = some u) := fun i u W hg hc =>
                    (World.cell?_of_block (a := ⟨xb, i, none⟩) (hg.block xb (by simp; omega) (fun e => HSELF.out _ e rfl))).trans ((World.cell?_of_block (a := ⟨xb, i, none⟩) (Below.heap_alloc wr _ _ hxl)).trans hc)
                  clear hs hr1 hor hself
                  have hgx : gr ≠ xb := fun e => HXF2.out (by rw [HM4.out.rows.bf, ← e]; exact List.mem_append_left _ (by simp [Value.ownBlock]))
                  go_upto_region 17 with fail
                  go_cut [] from 11 to 152 (fun wx => ∃ (ss3 : List Sv) (fr3 : List Nat), Hid (DocM w wx (.slice (some ⟨gr, 0, none⟩) no2 co2) (.slice (some ⟨gh, 0, none⟩) j ch) (rowsR (pre ++ [(x1, x2)])) S ss3 fr3) ∧ wx.cell? ⟨xb, 0, none⟩ = some (.int .i64 x1) ∧ wx.cell? ⟨xb, 1, none⟩ = some (.int .i64 x2) ∧ Hid (xb ∉ fr3))
                  case first =>
                      go_wp2_with fail
                      go_region_law (refine step_appendQ EZ (by rfl) (.tmp 103) (.tmp 106) (by rfl) 0 (.slice q1 k1 cc1) r1 x2 ⟨wr.heap.size, 0, none⟩ 1 (by rfl) (OwnE.drewN (OwnE.alloc HOL.out _) 1) (by rfl) (newZ wr _ rfl _) HLEN.out (Nat.zero_le _) ?_; intro v1 w1 a1 a2 a3; obtain ⟨p1, n1, hv1⟩ := OwnE.form a1; rw [List.length_append, List.length_singleton] at hv1; subst hv1; obtain ⟨f', hR, hSt, cc, fc⟩ := RowsS.put HM4.out.rows HM4.out.nd (s1 := (p1, r1.length + 1, n1)) (below_drewN ((Below.refl _ wr).alloc (Nat.le_refl _) _) 1) HS.out HR1.out a1 a2 a3; have HR2 := hidp hR; have HST := hidp hSt; have x0 : w1.cell? ⟨gr, x1, none⟩ = some (.slice q1 k1 cc1) := cc; have y0 := HBX.out 0 _ _ a2 b0; have y1 := HBX.out 1 _ _ a2 b1; clear a1 a2 a3 hR hSt cc)
                      all_goals as_aux_lemma =>
                        go_wp2_with fail
                        go_meet
                        case rel =>
                          have hD := HM4.out.rowed HR2.out HST.out
                          rw [HSET.out] at hD
                          exact ⟨_, f', hD, cell_step HST.out HXF2.out b0, cell_step HST.out HXF2.out b1, notin_step HST.out HXF2.out (lt_of_cellQ b0)⟩
                  case rest =>
                    as_aux_lemma =>
                      have HNO : Hid (no2 = (rowsR (pre ++ [(x1, x2)])).length) := by
                        show _ = _
                        rw [← HSET.out, List.length_set]; exact HRL.out
                      clear HM4 HXF2 HRL HRW HOL HS HR1 HLEN HSELF HBX cs fs hxl b0 b1 HSET hgl
                      obtain ⟨ss3, fr3, HM6, b0, b1, HXF6⟩ := hcut
                      obtain ⟨gq, kq, eq, hgq0, _, hrq, hfq⟩ := HM6.out.own.some HNM.out.2.symm hm0
                      simp only [Value.slice.injEq, Option.some.injEq, Addr.mk.injEq] at eq
                      obtain ⟨⟨rfl, -⟩, -⟩ := eq
                      obtain ⟨h0, h1⟩ := hrq.hd HX.out
                      rw [Nat.zero_add] at h0 h1
                      have hf0 := hfq (k * 2)
                      have hf1 := hfq (k * 2 + 1)
                      have hxg : xb ≠ gh := HXG.out
                      have hgl := hrq.1
                      obtain ⟨t, ht⟩ : ∃ t, j = t + 1 := ⟨j - 1, by omega⟩
                      obtain ⟨⟨z1, z2⟩, hz⟩ : ∃ z, S[t]? = some z := ⟨_, List.getElem?_eq_getElem (by rw [← HNM.out.2]; omega)⟩
                      obtain ⟨g0, g1⟩ := hrq.hd hz
                      rw [Nat.zero_add] at g0 g1
                      have hjw : IntKind.i64.wrap ((j : Int) - 1) = (t : Int) := by rw [IntKind.wrap_i64]; omega
                      have hjt : (j : Int) - 1 = (t : Int) := by omega
                      have htj : (t : Int) < (j : Int) := by omega
                      have hcp := HM6.out.own.capBound
                      have htc : (t : Int) ≤ (ch : Int) := by omega
                      have own9 := (HM6.out.own.setE hkm (z1, z2)).cut (m := t) (by omega)
                      have ch9 : Chg (fun q => some q = (Value.slice (some ⟨gh, 0, none⟩) j ch).ownBlock) wc ((wc.setCell ⟨gh, k * 2, none⟩ (.int .i64 z1)).setCell ⟨gh, k * 2 + 1, none⟩ (.int .i64 z2)) := ((Chg.refl (fun q => some q = (Value.slice (some ⟨gh, 0, none⟩) j ch).ownBlock) wc).setCell (p := ⟨gh, k * 2, none⟩) (Or.inl rfl) _).setCell (p := ⟨gh, k * 2 + 1, none⟩) (Or.inl rfl) _
                      have HM9 : Hid (DocM w ((wc.setCell ⟨gh, k * 2, none⟩ (.int .i64 z1)).setCell ⟨gh, k * 2 + 1, none⟩ (.int .i64 z2)) (.slice (some ⟨gr, 0, none⟩) no2 co2) (.slice (some ⟨gh, 0, none⟩) t ch) (rowsR (pre ++ [(x1, x2)])) ((S.set k (z1, z2)).take t) ss3 fr3) := HM6.out.held own9 ch9 (Or.inl rfl)
                      have HSW := hidp (HD.out.drain HR.out HF.out (cut_perm HX.out (by rw [← HNM.out.2]; exact ht) hz))
                      have hlen9 : t = ((S.set k ((z1, z2) : Hd)).take t).length := by rw [List.length_take, List.length_set, ← HNM.out.2]; omega
                      have hl60 := (HSW.out.run.lens HR.out (by have := List.length_take_le i l; omega)).1
                      rw [← HNO.out] at hl60
                      have HLN := hidp hlen9
                      have ht60 : t ≤ 60 := by omega
                      have hjd : t < j := by omega
                      clear hrq hfq hz own9 ch9 HM6 hlen9 ht hcp
                      go_wp2
                      go_roundg (2 * (n - i) + t)
                      case measure => omega
                      case rel => exact ⟨some ⟨gr, 0, none⟩, some ⟨gh, 0, none⟩, no2, co2, t, ch, i, _, _, ss3, fr3, rfl, rfl, rfl, by omega, by omega, hl60, ht60, (show Hid _ from ⟨HNO.out, HLN.out⟩), (show Hid _ from by rw [HDR0.out]; exact HSW.out), HM9⟩
      · have hmz : ¬ (0 : Int) < (mh : Int) := by omega
        have hmd : decide (0 < mh) = false := decide_eq_false hm0
        have hS : S = [] := List.eq_nil_of_length_eq_zero (by rw [← HNM.out.2]; omega)
        subst hS
        have HDN := hidp HD.out.done
        go_wp2
        go_ret
        have := HM.out.rows
        rw [HDN.out] at this
        first
          | exact ⟨_, rfl, ⟨ss, fr, this⟩, HM.out.bl⟩
          | exact ⟨_, ss, fr, rfl, this, HM.out.bl⟩
#print axioms refRuns_any
end Go.Proofs.YtlaeaeciomkababDoor
