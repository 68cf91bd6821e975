/-
  The document's codes: Lengths, walked.
-/
import Derived.Test.YtimlgdedgjpkdaaDoorRefH3
import Derived.Test.YtimlgdedgjpkdaaDoorHuL
namespace Go.Proofs.YtimlgdedgjpkdaaDoor
open Go.RowKit Go.Sort Go.Proofs

theorem range_succ_z (i : Nat) : ((List.range (i + 1)).map fun n : Nat => (n : Int)) = ((List.range i).map fun n : Nat => (n : Int)) ++ [(i : Int)] := by rw [List.range_succ, List.map_append]; rfl
/-- While the symbols of a round are gone through. -/
structure MidU (n m ta tb j : Nat) (of out ofJ outJ : List Int) : Prop where
  l1 : ofJ.length = n
  l2 : outJ.length = n
  one : ∀ (s : Nat) (t : Int), s < j → of[s]? = some t → ofJ[s]? = some (if hitZ ta tb t then (m : Int) else t)
  two : ∀ (s : Nat) (t k : Int), s < j → of[s]? = some t → out[s]? = some k → outJ[s]? = some (if hitZ ta tb t then k + 1 else k)
  rest : ∀ s, j ≤ s → ofJ[s]? = of[s]? ∧ outJ[s]? = out[s]?
theorem MidU.begin {n m ta tb : Nat} {of out : List Int} (h1 : of.length = n) (h2 : out.length = n) : MidU n m ta tb 0 of out of out :=
  ⟨h1, h2, fun s t h => by omega, fun s t k h => by omega, fun _ _ => ⟨rfl, rfl⟩⟩
theorem MidU.hit {n m ta tb j : Nat} {of out ofJ outJ : List Int} (h : MidU n m ta tb j of out ofJ outJ) {t k : Int} (hj : j < n) (e1 : of[j]? = some t) (e2 : out[j]? = some k) (hh : hitZ ta tb t = true) : MidU n m ta tb (j + 1) of out (ofJ.set j (m : Int)) (outJ.set j (k + 1)) := by
  refine ⟨by rw [List.length_set]; exact h.l1, by rw [List.length_set]; exact h.l2, fun s u hs hu => ?_, fun s u k2 hs hu hk => ?_, fun s hs => ?_⟩
  · by_cases e : j = s
    · subst e
      rw [e1] at hu; cases hu
      rw [List.getElem?_set_self (by rw [h.l1]; exact hj), hh, if_pos rfl]
    · rw [List.getElem?_set_ne e]; exact h.one s u (by omega) hu
  · by_cases e : j = s
    · subst e
      rw [e1] at hu; cases hu
      rw [e2] at hk; cases hk
      rw [List.getElem?_set_self (by rw [h.l2]; exact hj), hh, if_pos rfl]
    · rw [List.getElem?_set_ne e]; exact h.two s u k2 (by omega) hu hk
  · rw [List.getElem?_set_ne (by omega), List.getElem?_set_ne (by omega)]
    exact h.rest s (by omega)
theorem MidU.miss {n m ta tb j : Nat} {of out ofJ outJ : List Int} (h : MidU n m ta tb j of out ofJ outJ) {t : Int} (e1 : of[j]? = some t) (hh : hitZ ta tb t = false) : MidU n m ta tb (j + 1) of out ofJ outJ := by
  obtain ⟨r1, r2⟩ := h.rest j (Nat.le_refl _)
  refine ⟨h.l1, h.l2, fun s u hs hu => ?_, fun s u k2 hs hu hk => ?_, fun s hs => h.rest s (by omega)⟩
  · by_cases e : j = s
    · subst e
      rw [e1] at hu; cases hu
      rw [r1, e1, hh]; rfl
    · exact h.one s u (by omega) hu
  · by_cases e : j = s
    · subst e
      rw [e1] at hu; cases hu
      rw [r2, hk, hh]; rfl
    · exact h.two s u k2 (by omega) hu hk
set_option maxHeartbeats 16000000 in
set_option maxRecDepth 100000 in
theorem refLengths_any {w : World} {v : Value} {l : List Int} (h : SlE EZ w v l) (h0 : wrongC l 1000 = 0) :
    Calls Tryd.prog 14 #[v] w fun e w' => ∃ u, e = .returned u ∧ SlE EZ w' u (lensU (natL l)) ∧ Below w.heap.size w w' := by
  obtain ⟨p, cap, rfl, _⟩ := id h
  obtain ⟨hpos, h40, hrng⟩ := wrongC_zero h0
  obtain ⟨n, hn⟩ : ∃ n, l.length = n := ⟨_, rfl⟩
  obtain ⟨ws, hws⟩ : ∃ ws, natL l = ws := ⟨_, rfl⟩
  have hwl : ws.length = n := by rw [← hws, ← hn, natL_len]
  have hlw : l = ws.map fun n : Nat => (n : Int) := by
    rw [← hws]
    unfold natL
    rw [List.map_map]
    apply List.ext_getElem
    · simp
    · intro i h1 h2
      have := hrng l[i] (List.getElem_mem h1)
      simp
      omega
  have hw1000 : ∀ a ∈ ws, a ≤ 1000 := fun a ha => by
    have : (a : Int) ∈ l := by rw [hlw]; exact List.mem_map_of_mem (f := fun n : Nat => (n : Int)) ha
    have := hrng _ this
    omega
  have hQ0 := HuQ.begin (ws := ws) (by omega) (by omega) hw1000
  rw [← hlw, hwl] at hQ0
  have hU40 : ∀ s, s < n → lenU ws s ≤ 40 := fun s hs => by
    have := (lenU_fact (ws := ws) (by omega)).2.1 s (by omega)
    omega
  rw [hn] at h h40 hpos ⊢
  rw [hws]
  have HL := hidp h
  have HN := hidp hn
  have HQ0 := hidp hQ0
  have HWL := hidp hwl
  have HU40 := hidp hU40
  clear h h0 hrng hn hws hwl hlw hw1000 hQ0 hU40
  obtain ⟨i0, hi, hz0, hz1, hz2⟩ := EZ.infoE
  have hz2' : i0.bytes = 8 := hz2
  have HS1 : Hid (([] : List Int).length + l.length ≤ 1000000) := by show _ ≤ _; have := HN.out; simp; omega
  go_enter Tryd.func14, Tryd.ntmps14
  go_wp2_with (first | (at_make; refine wpList_make_full _ rfl (.tmp 13) (.tmp 13) 22 rfl w.heap.size 3 i0 (.int .i64 0) 1 Tryd.underlying22 hi hz0 hz1 .i64 .i64 _ _ n rfl rfl rfl rfl (by rw [hz2']; omega) (by unfold maxLen; omega) (Nat.le_refl _) ?_; intro w1 ho1 hg1; have hb1 : Below w.heap.size w w1 := (Below.refl _ _).grown hg1 (Nat.le_refl _) (fun k e => by cases e); obtain ⟨_, hw1⟩ := made_ints ho1 hpos; have HW1 := hidp hw1; have HB1 := hidp hb1; have HL1 := hidp (HL.out.below hb1); clear ho1 hg1 hw1 hb1) | (at_builtin; refine wpList_append_slE EZ rfl (.tmp 15) (.tmp 16) rfl w1.heap.size _ _ [] l rfl rfl (OwnE.nil EZ w1 _) HL1.out HS1.out (Nat.le_refl _) ?_; intro v2 w2 a1 a2; have hb2 := below_ownE (OwnE.nil EZ w1 w1.heap.size) a2 (Nat.le_refl _) (Nat.le_refl _); rw [List.nil_append] at a1; have HW2 := hidp (HW1.out.below hb2 HW1.out.lt); have HB2 := hidp (HB1.out.trans (hb2.mono HB1.out.size)); have HO2 := hidp a1; have HZ1 := hidp HW1.out.lt; have HZ2 := hidp hb2.size; clear a1 a2 hb2))
  clear hi hz0 hz1 hz2 hz2' HW1 HB1 HL1 HS1
  go_loopg [5, 6] n (fun g vf vi wr => ∃ i : Nat, vi = .int .i64 i ∧ i + g = n ∧ Hid (OwnE EZ wr w2.heap.size vf ((List.range i).map fun n : Nat => (n : Int))) ∧ Hid (Below w2.heap.size w2 wr))
  case atStart => exact ⟨0, rfl, by omega, (show Hid _ from OwnE.nil EZ w2 _), (show Hid _ from Below.refl _ _)⟩
  case round =>
    obtain ⟨i, rfl, hg, HO, HB⟩ := hrel
    by_cases hin : i < n
    · have hiz : (i : Int) < (n : Int) := by omega
      have HOA := hidp (HO.out.alloc (.cells #[.int .i64 i] 3))
      have HNEW := hidp (box_one wr i)
      have HSZ : Hid (((List.range i).map fun n : Nat => (n : Int)).length ≤ 100000) := by show _ ≤ _; simp; omega
      have HBS : Hid (w2.heap.size ≤ (wr.alloc (.cells #[.int .i64 i] 3)).heap.size) := by have := HB.out.size; show _ ≤ _; simp; omega
      go_wp2_with (at_builtin; refine wpList_appendE EZ rfl (.tmp 24) (.tmp 26) rfl w2.heap.size _ ((List.range i).map fun n : Nat => (n : Int)) (i : Int) ⟨wr.heap.size, 0, none⟩ 1 rfl HOA.out rfl HNEW.out HSZ.out HBS.out ?_; intro v1 w3 a1 a2 a3; have hb1 := below_ownE HOA.out a2 (Nat.le_refl _) HBS.out; have HB1 := hidp ((HB.out.alloc HB.out.size _).trans hb1); have HO1 := hidp a1; clear a1 a2 a3 hb1)
      go_roundg (n - (i + 1))
      case measure => omega
      case rel => exact ⟨i + 1, by go_num, by omega, (show OwnE _ _ _ _ _ by rw [range_succ_z]; exact HO1.out), HB1⟩
    · obtain rfl : i = n := by omega
      have hiz : ¬ (i : Int) < (i : Int) := by omega
      obtain ⟨fb, fc, rfl, hfb, hfc, hrf, hff⟩ := HO.out.some (n := i) (by simp) hpos
      have hW : WrE EZ wr fb 0 ((List.range i).map fun n : Nat => (n : Int)) := ⟨hrf, fun j _ => by rw [Nat.zero_add]; exact hff j⟩
      have hob := HZ1.out
      have hz2 := HZ2.out
      have hD : DoU w wr w.heap.size fb v2 (List.replicate i 0) ((List.range i).map fun n : Nat => (n : Int)) l := by
        refine ⟨HW2.out.below HB.out HW2.out.lt, hW, (HO2.out.below HB.out).weak (by omega), by omega, fun k hk => ?_, Nat.le_refl _, by omega, HB2.out.trans (HB.out.mono HB2.out.size)⟩
        have := World.ownsRow.lt HO2.out k hk
        have := HW2.out.lt
        omega
      have HD := hidp hD
      generalize hob2 : w.heap.size = ob at HD ⊢
      clear hob2 hob hz2 hD hW hrf hff HO HB HW2 HB2 HO2 HZ1 HZ2 hfb
      go_wp2
      go_loopg [4, 7] i (fun g vw vr wr => ∃ (r : Nat), vr = .int .i64 r ∧ r + g = i + 1 ∧ 1 ≤ r ∧ r ≤ i ∧ ∃ (W of out : List Int), Hid (DoU w wr ob fb vw out of W) ∧ Hid (HuQ i (lenU ws) r W of out))
      case atStart => exact ⟨1, rfl, by omega, by omega, by omega, l, _, _, HD, HQ0⟩
      case round =>
        clear HD HQ0
        obtain ⟨r, rfl, hg, hr1, hri, W, of, out, HD, HQ⟩ := hrel
        by_cases hrn : r < i
        · have hrz : (r : Int) < (i : Int) := by omega
          have hwlen := HQ.out.wlen
          have hmany := HQ.out.many
          obtain ⟨m, hm⟩ : ∃ m, W.length = m := ⟨_, rfl⟩
          rw [hm] at hwlen
          obtain ⟨g4, c4, rfl, hcells⟩ := HD.out.wcell (by omega)
          rw [hm]
          rw [hm] at HD
          have HM := hidp hm
          have HCL := hidp hcells
          have H2 : Hid (2 ≤ (liveF 0 W).length) := by show _ ≤ _; omega
          have hm80 : m ≤ 80 := by omega
          have hwrap : ∀ t : Nat, t < 1000 → IntKind.i64.wrap (t : Int) = (t : Int) := fun t ht => by rw [IntKind.wrap_i64]; omega
          have hm0 : 0 < m := by omega
          clear hm hcells hmany hwrap hwlen
          obtain ⟨W0, hW0⟩ : ∃ W0, W0 = wr := ⟨_, rfl⟩
          subst hW0
          go_wp2
          go_loopg [8, 9, 10] m (fun gk va vb vi wk => ∃ (a b : Int) (k : Nat), va = .int .i64 a ∧ vb = .int .i64 b ∧ vi = .int .i64 k ∧ k + gk = m ∧ Hid (∃ q, wk = W0.drewN q) ∧ Hid (Find2 W k a b))
          case atStart => exact ⟨-1, -1, 0, rfl, rfl, rfl, by omega, (show Hid _ from ⟨0, rfl⟩), (show Hid _ from find2_begin W)⟩
          case round =>
            obtain ⟨a, b, k, rfl, rfl, rfl, hgk, HW, HF⟩ := hrel
            by_cases hkm : k < m
            · have hkz : (k : Int) < (m : Int) := by omega
              obtain ⟨y, hy⟩ : ∃ y, W[k]? = some y := ⟨_, List.getElem?_eq_getElem (by have := HM.out; omega)⟩
              have cy : wr.cell? ⟨g4, k, none⟩ = some (.int .i64 y) := by obtain ⟨q, hq⟩ := HW.out; rw [hq]; exact (HCL.out k y hy).1
              by_cases hy0 : y < 0
              · have HF2 := hidp (find2_skip HF.out hy hy0)
                clear hy
                go_wp2
                go_roundg (m - (k + 1))
                case measure => omega
                case rel => exact ⟨a, b, k + 1, rfl, rfl, by go_num, by omega, HW, HF2⟩
              · have hy1 : 0 ≤ y := by omega
                rcases HF.out with ⟨ha, hb, hnone⟩ | ⟨ta, xa, ha, hb, h3, h4, h5, h6⟩ | ⟨ta, tb, xa, xb, ha, hb, h3, h4, h5, h6, h7, h8, h9, h10, h11⟩
                · subst ha hb
                  have HF2 := hidp (find2_first hnone hy hy1)
                  clear hy hnone HF
                  go_wp2_with fail
                  go_quiet (fail)
                  go_wp2
                  go_roundg (m - (k + 1))
                  case measure => omega
                  case rel => exact ⟨k, -1, k + 1, rfl, rfl, by go_num, by omega, (show Hid _ from (by obtain ⟨q, hq⟩ := HW.out; exact ⟨_, by rw [hq, World.drewN_drewN]⟩)), HF2⟩
                · subst ha hb
                  obtain ⟨f1, f2⟩ := find2_two h3 h4 h5 h6 hy hy1
                  have ca : wr.cell? ⟨g4, ta, none⟩ = some (.int .i64 xa) := by obtain ⟨q, hq⟩ := HW.out; rw [hq]; exact (HCL.out ta xa h4).1
                  have htz : (ta : Int) < (m : Int) := by omega
                  have hta0 : decide ((ta : Int) < 0) = false := decide_eq_false (by omega)
                  have hta1 : ¬ (ta : Int) < 0 := by omega
                  by_cases hlt : y < xa
                  · have HF2 := hidp (f1 hlt)
                    have hd : decide (y < xa) = true := decide_eq_true hlt
                    clear f1 f2 h4 h6 hy HF
                    go_wp2_with fail
                    go_quiet (fail)
                    go_wp2
                    go_roundg (m - (k + 1))
                    case measure => omega
                    case rel => exact ⟨k, ta, k + 1, rfl, rfl, by go_num, by omega, (show Hid _ from (by obtain ⟨q, hq⟩ := HW.out; exact ⟨_, by rw [hq, World.drewN_drewN]⟩)), HF2⟩
                  · have HF2 := hidp (f2 hlt)
                    have hd : decide (y < xa) = false := decide_eq_false hlt
                    clear f1 f2 h4 h6 hy HF
                    go_wp2_with fail
                    go_quiet (fail)
                    go_wp2_with fail
                    go_quiet (fail)
                    go_wp2
                    go_roundg (m - (k + 1))
                    case measure => omega
                    case rel => exact ⟨ta, k, k + 1, rfl, rfl, by go_num, by omega, (show Hid _ from (by obtain ⟨q, hq⟩ := HW.out; exact ⟨_, by rw [hq, World.drewN_drewN]⟩)), HF2⟩
                · subst ha hb
                  obtain ⟨f1, f2, f3⟩ := find2_more h3 h4 h5 h6 h7 h8 h9 h10 h11 hy hy1
                  have ca : wr.cell? ⟨g4, ta, none⟩ = some (.int .i64 xa) := by obtain ⟨q, hq⟩ := HW.out; rw [hq]; exact (HCL.out ta xa h6).1
                  have cb : wr.cell? ⟨g4, tb, none⟩ = some (.int .i64 xb) := by obtain ⟨q, hq⟩ := HW.out; rw [hq]; exact (HCL.out tb xb h7).1
                  have htz : (ta : Int) < (m : Int) := by omega
                  have hsz : (tb : Int) < (m : Int) := by omega
                  have hta0 : decide ((ta : Int) < 0) = false := decide_eq_false (by omega)
                  have hta1 : ¬ (ta : Int) < 0 := by omega
                  have htb0 : decide ((tb : Int) < 0) = false := decide_eq_false (by omega)
                  have htb1 : ¬ (tb : Int) < 0 := by omega
                  by_cases hlt : y < xa
                  · have HF2 := hidp (f1 hlt)
                    have hd : decide (y < xa) = true := decide_eq_true hlt
                    clear f1 f2 f3 h6 h7 h10 h11 hy HF
                    go_wp2_with fail
                    go_quiet (fail)
                    go_wp2
                    go_roundg (m - (k + 1))
                    case measure => omega
                    case rel => exact ⟨k, ta, k + 1, rfl, rfl, by go_num, by omega, (show Hid _ from (by obtain ⟨q, hq⟩ := HW.out; exact ⟨_, by rw [hq, World.drewN_drewN]⟩)), HF2⟩
                  · have hd : decide (y < xa) = false := decide_eq_false hlt
                    by_cases hlt2 : y < xb
                    · have HF2 := hidp (f2 hlt hlt2)
                      have hd2 : decide (y < xb) = true := decide_eq_true hlt2
                      clear f1 f2 f3 h6 h7 h10 h11 hy HF
                      go_wp2_with fail
                      go_quiet (fail)
                      go_wp2_with fail
                      go_quiet (fail)
                      go_wp2
                      go_roundg (m - (k + 1))
                      case measure => omega
                      case rel => exact ⟨ta, k, k + 1, rfl, rfl, by go_num, by omega, (show Hid _ from (by obtain ⟨q, hq⟩ := HW.out; exact ⟨_, by rw [hq, World.drewN_drewN]⟩)), HF2⟩
                    · have HF2 := hidp (f3 hlt hlt2)
                      have hd2 : decide (y < xb) = false := decide_eq_false hlt2
                      clear f1 f2 f3 h6 h7 h10 h11 hy HF
                      go_wp2_with fail
                      go_quiet (fail)
                      go_wp2_with fail
                      go_quiet (fail)
                      go_wp2
                      go_roundg (m - (k + 1))
                      case measure => omega
                      case rel => exact ⟨ta, tb, k + 1, rfl, rfl, by go_num, by omega, (show Hid _ from (by obtain ⟨q, hq⟩ := HW.out; exact ⟨_, by rw [hq, World.drewN_drewN]⟩)), HF2⟩
            · have hkz : ¬ (k : Int) < (m : Int) := by omega
              obtain rfl : m = k := by omega
              have hF := HF.out
              rw [← HM.out] at hF
              obtain ⟨ta, tb, xa, xb, ha, hb, hne, hxa, hxb, xa0, xb0, F1, P1, F2, P2⟩ := find2_done hF H2.out
              subst ha hb
              obtain ⟨q0, hq0⟩ := HW.out
              have hD2 := HD.out.down q0
              rw [← hq0] at hD2
              have HD2 := hidp hD2
              have lta : ta < m := by have := (List.getElem?_eq_some_iff.1 hxa).1; have := HM.out; omega
              have ltb : tb < m := by have := (List.getElem?_eq_some_iff.1 hxb).1; have := HM.out; omega
              have HXA := hidp hxa
              have HXB := hidp hxb
              have HST : Hid (∀ of2 out2 : List Int, MidU i m ta tb i of out of2 out2 → HuQ i (lenU ws) (r + 1) (((W ++ [xa + xb]).set ta (-1)).set tb (-1)) of2 out2 ∧ xa + xb ≤ 40000) := fun of2 out2 mid => by
                refine HQ.out.step hrn hne hxa hxb xa0 xb0 F1 P1 F2 P2 mid.l1 mid.l2 (fun s t hs => ?_) (fun s t k hs hk => ?_)
                · rw [HM.out]
                  exact mid.one s t (by have := (List.getElem?_eq_some_iff.1 hs).1; have := HQ.out.olen; omega) hs
                · exact mid.two s t k (by have := (List.getElem?_eq_some_iff.1 hs).1; have := HQ.out.olen; omega) hs hk
              have HNE := hidp hne
              clear hq0 hD2 hxa hxb F1 P1 F2 P2 hF HF HW HD HCL
              go_wp2
              go_loopg [11] i (fun gj vj wj => ∃ (j : Nat) (ofJ outJ : List Int), vj = .int .i64 j ∧ j + gj = i ∧ Hid (DoU w wj ob fb (.slice (some ⟨g4, 0, none⟩) m c4) outJ ofJ W) ∧ Hid (MidU i m ta tb j of out ofJ outJ))
              case atStart => exact ⟨0, of, out, rfl, by omega, HD2, (show Hid _ from MidU.begin HQ.out.olen HQ.out.outlen)⟩
              case round =>
                clear HD2
                obtain ⟨j, ofJ, outJ, rfl, hgj, HDJ, HMJ⟩ := hrel
                by_cases hji : j < i
                · have hjz : (j : Int) < (i : Int) := by omega
                  obtain ⟨t, k, r1, r2, r3, r4⟩ := HQ.out.rel j hji
                  have e1 := (HMJ.out.rest j (Nat.le_refl _)).1.trans r1
                  have e2 := (HMJ.out.rest j (Nat.le_refl _)).2.trans r3
                  obtain ⟨cof, fof⟩ := HDJ.out.ofm.int e1
                  obtain ⟨cou, fou⟩ := HDJ.out.outm.int e2
                  have lof := (List.getElem?_eq_some_iff.1 e1).1
                  have lou := (List.getElem?_eq_some_iff.1 e2).1
                  have hk40 : k ≤ 40 := by have := HU40.out j hji; omega
                  have hkw : IntKind.i64.wrap ((k : Int) + 1) = (k : Int) + 1 := by rw [IntKind.wrap_i64]; omega
                  have hbo := HDJ.out.outm.lt
                  have hbf := HDJ.out.ofm.lt
                  have hof : fb ≠ ob := fun e => HDJ.out.ne e.symm
                  by_cases hta : t = ta
                  · subst hta
                    have hh : hitZ t tb (t : Int) = true := by unfold hitZ; simp
                    have HM2 := hidp (HMJ.out.hit hji r1 r3 hh)
                    have HD3 : Hid (DoU w ((wr.setCell ⟨ob, j, none⟩ (.int .i64 ((k : Int) + 1))).setCell ⟨fb, j, none⟩ (.int .i64 m)) ob fb (.slice (some ⟨g4, 0, none⟩) m c4) (outJ.set j ((k : Int) + 1)) (ofJ.set j (m : Int)) W) := (HDJ.out.setOut lou _).setOf lof _
                    have heq : ((t : Int) == (t : Int)) = true := by simp
                    clear r1 r2 r3 r4 e1 e2 lof lou hh
                    go_wp2
                    go_roundg (i - (j + 1))
                    case measure => omega
                    case rel => exact ⟨j + 1, _, _, by go_num, by omega, HD3, HM2⟩
                  · have heq : ((t : Int) == (ta : Int)) = false := beq_eq_false_iff_ne.2 (by omega)
                    by_cases htb : t = tb
                    · subst htb
                      have hh : hitZ ta t (t : Int) = true := by unfold hitZ; simp
                      have HM2 := hidp (HMJ.out.hit hji r1 r3 hh)
                      have HD3 : Hid (DoU w ((wr.setCell ⟨ob, j, none⟩ (.int .i64 ((k : Int) + 1))).setCell ⟨fb, j, none⟩ (.int .i64 m)) ob fb (.slice (some ⟨g4, 0, none⟩) m c4) (outJ.set j ((k : Int) + 1)) (ofJ.set j (m : Int)) W) := (HDJ.out.setOut lou _).setOf lof _
                      have heq2 : ((t : Int) == (t : Int)) = true := by simp
                      clear r1 r2 r3 r4 e1 e2 lof lou hh
                      go_wp2
                      go_roundg (i - (j + 1))
                      case measure => omega
                      case rel => exact ⟨j + 1, _, _, by go_num, by omega, HD3, HM2⟩
                    · have heq2 : ((t : Int) == (tb : Int)) = false := beq_eq_false_iff_ne.2 (by omega)
                      have hh : hitZ ta tb (t : Int) = false := by
                        unfold hitZ
                        rw [decide_eq_false (show ¬ (t : Int) = (ta : Int) by omega), decide_eq_false (show ¬ (t : Int) = (tb : Int) by omega)]; rfl
                      have HM2 := hidp (HMJ.out.miss r1 hh)
                      have HD3 := hidp HDJ.out
                      clear r1 r2 r3 r4 e1 e2 lof lou hh
                      go_wp2
                      go_roundg (i - (j + 1))
                      case measure => omega
                      case rel => exact ⟨j + 1, _, _, by go_num, by omega, HD3, HM2⟩
                · have hjz : ¬ (j : Int) < (i : Int) := by omega
                  obtain rfl : i = j := by omega
                  obtain ⟨hQ2, hxab⟩ := HST.out ofJ outJ HMJ.out
                  have HQ2 := hidp hQ2
                  obtain ⟨g', c', e', hc'⟩ := HDJ.out.wcell (by have := HM.out; omega)
                  simp only [Value.slice.injEq, Option.some.injEq, Addr.mk.injEq] at e'
                  obtain ⟨⟨rfl, _⟩, -, rfl⟩ := e'
                  have ca := (hc' ta xa HXA.out).1
                  have cb := (hc' tb xb HXB.out).1
                  have hza : (ta : Int) < (m : Int) := by omega
                  have hzb : (tb : Int) < (m : Int) := by omega
                  have hwx : IntKind.i64.wrap (xa + xb) = xa + xb := by rw [IntKind.wrap_i64]; omega
                  have HWT := hidp HDJ.out.wt
                  have HLW : Hid (W.length ≤ 100000) := by show _ ≤ _; have := HM.out; omega
                  have HBB := hidp HDJ.out.below
                  have HGR : Hid (∀ (v' : Value) (wA w1 : World), Below wr.heap.size wr wA → OwnE EZ w1 w.heap.size v' (W ++ [xa + xb]) → wA.grownBy w1 (some g4) → (v'.ownBlock = some g4 ∨ v'.ownBlock = some wA.heap.size) → ∃ g5 c5, v' = .slice (some ⟨g5, 0, none⟩) (m + 1) c5 ∧ (∀ (t : Nat) (x : Int), (W ++ [xa + xb])[t]? = some x → w1.cell? ⟨g5, t, none⟩ = some (.int .i64 x) ∧ w1.frozen? ⟨g5, t, none⟩ = false) ∧ g5 < w1.heap.size ∧ DoU w ((w1.setCell ⟨g5, ta, none⟩ (.int .i64 (-1))).setCell ⟨g5, tb, none⟩ (.int .i64 (-1))) ob fb (.slice (some ⟨g5, 0, none⟩) (m + 1) c5) outJ ofJ (((W ++ [xa + xb]).set ta (-1)).set tb (-1))) := fun v' wA w1 hb a1 a2 a3 => by
                    have hg := HDJ.out.grown hb a1 a2 a3
                    obtain ⟨g5, c5, rfl, hcc⟩ := hg.wcell (by rw [List.length_append]; simp)
                    rw [List.length_append, List.length_singleton, HM.out] at hg ⊢
                    refine ⟨g5, c5, rfl, hcc, ?_, (hg.setW (by omega) _).setW (by omega) _⟩
                    exact lt_of_cellQ (hcc ta xa (by rw [List.getElem?_append_left (by have := HM.out; omega)]; exact HXA.out)).1
                  have HA2 : Hid ((W ++ [xa + xb])[ta]? = some xa ∧ (W ++ [xa + xb])[tb]? = some xb) := ⟨by rw [List.getElem?_append_left (by have := HM.out; omega)]; exact HXA.out, by rw [List.getElem?_append_left (by have := HM.out; omega)]; exact HXB.out⟩
                  have htz : (ta : Int) < (m : Int) + 1 := by omega
                  have htz2 : (tb : Int) < (m : Int) + 1 := by omega
                  clear hc' hQ2 HST HMJ HDJ HQ
                  go_wp2_with fail
                  go_region_law (refine step_appendQ EZ (by rfl) (.tmp 105) (.tmp 115) (by rfl) w.heap.size (.slice (some ⟨g4, 0, none⟩) m c4) W (xa + xb) ⟨wr.heap.size, 0, none⟩ 1 (by rfl) (OwnE.drewN (OwnE.alloc HWT.out _) 1) (by rfl) (box_one wr (xa + xb)) HLW.out (by have := HBB.out.size; simp; omega) ?_; intro v5 w5 a1 a2 a3; obtain ⟨g5, c5, rfl, hcc, hg5, hD5⟩ := HGR.out v5 _ w5 (below_drewN ((Below.refl _ wr).alloc (Nat.le_refl _) _) 1) a1 a2 a3; obtain ⟨z1, z2⟩ := hcc ta xa HA2.out.1; obtain ⟨z3, z4⟩ := hcc tb xb HA2.out.2; have HD5 := hidp hD5; clear a1 a2 a3 hcc hD5)
                  all_goals
                    have HNE2 := HNE.out
                    go_wp2
                    go_roundg (i - r)
                    case measure => omega
                    case rel => exact ⟨r + 1, by go_num, by omega, by omega, by omega, _, _, _, HD5, HQ2⟩
        · have hrz : ¬ (r : Int) < (i : Int) := by omega
          obtain rfl : r = i := by omega
          have HO := hidp HQ.out.done
          go_wp2
          go_ret
          refine ⟨_, rfl, ?_, HD.out.below⟩
          have hr := HD.out.outm.rd
          rw [HO.out] at hr
          have e : lensU ws = (List.range r).map fun s => (lenU ws s : Int) := by unfold lensU; rw [HWL.out]
          rw [e]
          exact SlE.of_rd hr (by simp) (Nat.le_refl _)
end Go.Proofs.YtimlgdedgjpkdaaDoor
