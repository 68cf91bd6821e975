/-
  The document's fill, walked. (Written by wip/gen/refsfill.py.)
-/
import Derived.Test.YtdpfijhkbhmkgaaDoorRefS2
import Derived.Test.YtdpfijhkbhmkgaaDoorSoV
namespace Go.Proofs.YtdpfijhkbhmkgaaDoor
open Go.RowKit Go.Sort Go.Proofs

theorem set_same {A : List SC} {i : Nat} {c : SC} (h : A[i]? = some c) : A.set i c = A := by
  refine List.ext_getElem? fun j => ?_
  rw [List.getElem?_set]
  by_cases z : i = j
  · subst z; rw [if_pos rfl, if_pos (List.getElem?_eq_some_iff.1 h).1]; exact h.symm
  · rw [if_neg z]
theorem own_form {w : World} {b : Nat} {v : Value} {l : List (Int × Int)} (h : OwnI w b v l) : ∃ p L c, v = .slice p L c ∧ OwnI w b (.slice p L c) l := by
  obtain ⟨p, c, e⟩ := OwnE.form (E := EI) (show OwnE EI w b v l from h)
  exact ⟨p, _, c, e, by rw [← e]; exact h⟩
theorem cells_grow {W wb : World} {B base : Nat} {v : Value} {F : Nat → Prop} {Q : List (SC × SlW)} (h : CellsAt EC W base v F Q) (hb : Below B W wb) (hB : B = W.heap.size) : CellsAt EC wb base v F Q := by
  subst hB
  exact h.below hb
theorem chg_grow {w W wb : World} {B : Nat} {G : Nat → Prop} (h : Chg G w W) (hb : Below B W wb) (hB : B = W.heap.size) : Chg G w wb := by
  subst hB
  exact h.trans (Chg.of_below (F := fun _ => False) hb) (fun _ z => z.elim)
theorem below_grown0 {w w' : World} (h : w.grownBy w' none) : Below w.heap.size w w' := ⟨h.os, h.tape, h.output, h.size, fun k hk => h.block k hk (by simp)⟩
/-- What a round's second half needs: the cells after a change of places. -/
structure Half (w wr W0 : World) (base g N cap : Nat) (F : Nat → Prop) (i ja : Nat) (k : Int) (r m : Nat) (m2 : Int) (is : List (Int × Int)) (d : SC) (A : List SC) (Q1 : List (SC × SlW)) (p : Option Addr) (sl sc : Nat) (p' : Option Addr) (sl' sc' : Nat) : Prop where
  cells : CellsAt EC W0 base (.slice (some ⟨g, 0, none⟩) N cap) F Q1
  chg : Chg (fun j => j = g) w W0
  ci : Q1[i]? = some (⟨k, r, m, ja, m2, is⟩, p, sl, sc)
  cj : Q1[ja]? = some (d, p', sl', sc')
  plain : ∀ X, (plainQ Q1).set i X = A.set i X
theorem none_b {Q : List (SC × SlW)} {i : Nat} {k : Int} {r m : Nat} {is : List (Int × Int)} {a b : SN} {l mm : Int} {f fl fm : List Nat} (hA : Rep (plainQ Q) (.node k r m is a b) (i : Int) f) (hb : b.none? = true) (hR : Round (plainQ Q) i f k r m is a b l mm fl fm) : mm = -1 := by
  obtain ⟨n', l', m', fa, fb, e1, e2, e3, e4, _⟩ := rep_node.1 hA
  obtain rfl : i = n' := by omega
  have e5 := hR.cell
  rw [e2] at e5
  simp only [Option.some.injEq, SC.mk.injEq] at e5
  obtain ⟨_, _, _, rfl, rfl, _⟩ := e5
  rw [SN.none_iff] at hb
  subst hb
  exact (rep_nil.1 e4).1
theorem two_a {Q : List (SC × SlW)} {i : Nat} {k : Int} {r m : Nat} {is : List (Int × Int)} {a b : SN} {l mm : Int} {f fl fm : List Nat} (hA : Rep (plainQ Q) (.node k r m is a b) (i : Int) f) (ha : a.none? = false) (hR : Round (plainQ Q) i f k r m is a b l mm fl fm) : ∃ (ja' : Nat) (da : SC × SlW), l = ja' ∧ Q[ja']? = some da ∧ da.1.key = a.key := by
  obtain ⟨n', l', m', fa, fb, e1, e2, e3, e4, _⟩ := rep_node.1 hA
  obtain rfl : i = n' := by omega
  have e5 := hR.cell
  rw [e2] at e5
  simp only [Option.some.injEq, SC.mk.injEq] at e5
  obtain ⟨_, _, _, rfl, rfl, _⟩ := e5
  obtain ⟨nn, c, h1, _, h3, h4, _⟩ := rep_cell e3 ha
  obtain ⟨s, hs⟩ := plainQ_get h3
  exact ⟨nn, (c, s), h1, hs, h4⟩
theorem two_b {Q : List (SC × SlW)} {i : Nat} {k : Int} {r m : Nat} {is : List (Int × Int)} {a b : SN} {l mm : Int} {f fl fm : List Nat} (hA : Rep (plainQ Q) (.node k r m is a b) (i : Int) f) (hb : b.none? = false) (hR : Round (plainQ Q) i f k r m is a b l mm fl fm) : ∃ (jb' : Nat) (db : SC × SlW), mm = jb' ∧ Q[jb']? = some db ∧ db.1.key = b.key := by
  obtain ⟨n', l', m', fa, fb, e1, e2, e3, e4, _⟩ := rep_node.1 hA
  obtain rfl : i = n' := by omega
  have e5 := hR.cell
  rw [e2] at e5
  simp only [Option.some.injEq, SC.mk.injEq] at e5
  obtain ⟨_, _, _, rfl, rfl, _⟩ := e5
  obtain ⟨nn, c, h1, _, h3, h4, _⟩ := rep_cell e4 hb
  obtain ⟨s, hs⟩ := plainQ_get h3
  exact ⟨nn, (c, s), h1, hs, h4⟩
set_option maxHeartbeats 16000000 in
set_option maxRecDepth 4000 in
theorem rfill_any (r0 : Nat) : ∀ (n : Nat) (k : Int) (r m : Nat) (is : List (Int × Int)) (a b : SN), a.size + b.size ≤ n → OpenN r0 k r m is a b → (is ++ (a.all ++ b.all)).length ≤ 1000 → RFillOK (.node k r m is a b) := by
  intro n
  induction n using Nat.strongRecOn with
  | _ n ih =>
  intro k0 r m is0 a0 b0 hn0 hO0 hL0 w base g N cap F Q0 i f0 hC0 hR0 hf0
  have IH : Hid (∀ k r m a' b', a'.size + b'.size < n → OpenN r0 k r m [] a' b' → (a'.all ++ b'.all).length ≤ 1000 → RFillOK (.node k r m [] a' b')) := fun k r m a' b' h1 h2 h3 => ih _ h1 k r m [] a' b' (Nat.le_refl _) h2 (by simpa using h3)
  obtain ⟨T, hT0⟩ : ∃ T, fillS (.node k0 r m is0 a0 b0) = T ∧ RFillI base g N cap F i r0 r m T (plainQ Q0) f0 w n n w := ⟨_, rfl, k0, is0, a0, b0, Q0, f0, hC0, hR0, Moved.refl hf0, Chg.refl _ w, hO0, rfl, hL0, hn0, Nat.le_refl _⟩
  rw [hT0.1]
  have HT0 := hid (hT0.2)
  obtain ⟨A0, hA0⟩ : ∃ A0, plainQ Q0 = A0 := ⟨_, rfl⟩
  rw [hA0] at HT0 ⊢
  clear hT0 hC0 hR0 hf0 hO0 hL0 ih hn0 hA0
  go_enter Tryd.func33, Tryd.ntmps33
  go_wp2_with fail
  go_loopg [] n (fun gg wr => RFillI base g N cap F i r0 r m T A0 f0 w n gg wr)
  case atStart => exact HT0.out
  case round =>
    clear HT0
    obtain ⟨k, is, a, b, Q, f, hC, hRp, hMo, hch, hO, hT, hLn, hg⟩ := hrel
    obtain ⟨l, mm, fl, fm, hR⟩ := round_of hRp
    obtain ⟨⟨p, sl, sc⟩, hQi⟩ := plainQ_get hR.cell
    have hsl : sl = is.length := (hC.its hQi).1
    obtain ⟨c0, c1, c2, c3, c4, c5⟩ := hC.words hQi
    obtain ⟨f0', f3, f4, f5⟩ := hC.free hQi
    have hiN : i < N := by rw [← hC.len]; exact (List.getElem?_eq_some_iff.1 hQi).1
    have hiz : (i : Int) < (N : Int) := by omega
    have hgl := hC.lt
    have hla := hR.la
    have hmb := hR.mb
    have HC := hid hC
    have HRp := hid hRp
    have HMo := hid hMo
    have HCh := hid hch
    have HO := hid hO
    have HT := hid hT
    have HLn := hid hLn
    have HG : Hid (a.size + b.size ≤ gk ∧ gk ≤ n) := hg
    have HR := hid hR
    have HQi := hid hQi
    have HSL := hid hsl
    clear hC hRp hMo hch hO hT hLn hg hR hQi hsl
    have STOP : Hid (¬ (is.length < m ∧ (a.none? = false ∨ b.none? = false)) → ∀ q, ∃ Q' f', CellsAt EC (wr.drewN q) base (.slice (some ⟨g, 0, none⟩) N cap) F Q' ∧ Rep (plainQ Q') T (i : Int) f' ∧ Moved A0 (plainQ Q') f0 f' ∧ Chg (fun j => j = g) w (wr.drewN q)) := by
      intro hs q
      refine ⟨Q, f, HC.out.below (below_drewN (Below.refl _ _) q), ?_, HMo.out, HCh.out.dn q⟩
      rw [← HT.out, fillS_stop hs]
      exact HRp.out
    by_cases hlt : sl < m
    · have hlz : (sl : Int) < (m : Int) := by omega
      have hlt' : Hid (is.length < m) := by show _ < _; rw [← HSL.out]; exact hlt
      by_cases hl0 : l < 0
      · have hl0' : ¬ (0 ≤ l) := by omega
        by_cases hm0 : mm < 0
        · have hm0' : ¬ (0 ≤ mm) := by omega
          have ha : a.none? = true := by rw [hla]; exact decide_eq_true hl0
          have hb : b.none? = true := by rw [hmb]; exact decide_eq_true hm0
          have ST := hid (STOP.out (fun z => by rw [ha, hb] at z; simp at z))
          clear STOP HC HRp HMo HCh HO HT HLn HG HR HQi HSL ha hb hla hmb
          go_wp2_with fail
          go_quiet (fail)
          go_wp2
          refine bodyPost_end (results_none rfl _ _ _) rfl ?_
          exact ⟨rfl, ST.out _⟩
        · have hm0' : 0 ≤ mm := by omega
          have hsw : swapS a b = true := by
            have ha : a.none? = true := by rw [hla]; exact decide_eq_true hl0
            unfold swapS; rw [ha]; rfl
          have hpt : Hid (a.none? = false ∨ b.none? = false) := Or.inr (by rw [hmb]; exact decide_eq_false hm0)
          obtain ⟨ka, ra, wa, ia, la, lb, eL⟩ := less_node hpt.out
          obtain ⟨ja, d, hJ, hne, hAj, hdk, hdi, hnn, hTk⟩ := HR.out.taken HMo.out.nodup eL
          rw [hsw] at hJ hTk
          simp only [if_true] at hJ hTk
          subst hJ
          have HTk := hid (hTk _ rfl)
          obtain ⟨⟨p', sl', sc'⟩, hQj⟩ := plainQ_get hAj
          have hjN : ja < N := by rw [← HC.out.len]; exact (List.getElem?_eq_some_iff.1 hQj).1
          have hjz : (ja : Int) < (N : Int) := by omega
          have HAJ := hid hAj
          have HQj := hid hQj
          have HNN := hid hnn
          have HDK := hid hdk
          have HDI := hid hdi
          have HEL := hid eL
          clear hAj hQj hnn hdk hdi hTk eL hla hmb hsw STOP
          go_wp2_with fail
          go_quiet (fail)
          generalize hwq : wr.drewN _ = wq
          have HCq : Hid (CellsAt EC wq base (.slice (some ⟨g, 0, none⟩) N cap) F Q) := by show CellsAt _ _ _ _ _ _; rw [← hwq]; exact HC.out.below (below_drewN (Below.refl _ _) _)
          have HChq : Hid (Chg (fun j => j = g) w wq) := by show Chg _ _ _; rw [← hwq]; exact HCh.out.dn _
          clear hwq c0 c1 c2 c3 c4 c5 f0' f3 f4 f5 HC HCh
          obtain ⟨c0, c1, c2, c3, c4, c5⟩ := HCq.out.words HQi.out
          obtain ⟨f0', f3, f4, f5⟩ := HCq.out.free HQi.out
          obtain ⟨Q1, HALF⟩ : ∃ Q1, Hid (∀ q, Half w wr (((wq.drewN q).setCell ⟨g, i * 6 + 3, none⟩ (.int .i64 (ja : Int))).setCell ⟨g, i * 6 + 4, none⟩ (.int .i64 l)) base g N cap F i ja k r m l is d (plainQ Q) Q1 p sl sc p' sl' sc') := by
            refine ⟨(Q.set i (⟨k, r, m, (ja : Int), (ja : Int), is⟩, p, sl, sc)).set i (⟨k, r, m, (ja : Int), l, is⟩, p, sl, sc), fun q => ?_⟩
            have hil : i < Q.length := (List.getElem?_eq_some_iff.1 HQi.out).1
            have h0 : CellsAt EC (wq.drewN q) base (.slice (some ⟨g, 0, none⟩) N cap) F Q := HCq.out.below (below_drewN (Below.refl _ _) q)
            have h1 := h0.putL HQi.out (ja : Int)
            have e1 : (Q.set i (⟨k, r, m, (ja : Int), (ja : Int), is⟩, p, sl, sc))[i]? = some (⟨k, r, m, (ja : Int), (ja : Int), is⟩, p, sl, sc) := List.getElem?_set_self hil
            have h2 := h1.putR e1 l
            refine ⟨h2, ((HChq.out.dn q).setCell (p := ⟨g, i * 6 + 3, none⟩) (Or.inl rfl) _).setCell (p := ⟨g, i * 6 + 4, none⟩) (Or.inl rfl) _, ?_, ?_, fun X => ?_⟩
            · rw [List.getElem?_set_self (by simpa using hil)]
            · rw [List.getElem?_set_ne hne, List.getElem?_set_ne hne]; exact HQj.out
            · rw [plainQ_set, plainQ_set, List.set_set, List.set_set]
          have hs0 : is.length ≤ 1000 := by have := HLn.out; simp only [List.length_append] at this; omega
          have hs1 : is.length + ia.length ≤ 1000 := by
            have h1 := (less_all a b).length_eq
            rw [HEL.out, SN.all_node] at h1
            have := HLn.out
            simp only [List.length_append] at this h1
            omega
          have hsd : is.length + d.items.length ≤ 1000 := by rw [HDI.out]; exact hs1
          have HLOW : Hid (∀ j, (j = g ∨ F j) → j < wq.heap.size) := by
            rintro j (z | z)
            · rw [z]; exact HCq.out.lt
            · exact HCq.out.low j z
          clear HCq HChq HQi HQj HAJ
          go_wp2_with fail
          go_quiet (fail)
          go_wp2_with (first | (at_builtin; refine wpList_append_sl rfl (.tmp 75) (.tmp 80) rfl wq.heap.size (.slice none 0 0) (.slice p sl sc) [] is.toArray rfl rfl (OwnI.nil _ _) (((HALF.out _).cells.its (HALF.out 0).ci).sl) (by simp; omega) (by first | exact Nat.le_refl _ | simp) ?_; intro v1 wA1 hA1 hgA1; have HA1 := hid hA1; have HB1 := hid ((below_grown0 hgA1).mono (show wq.heap.size ≤ _ by first | exact Nat.le_refl _ | simp)); have hsa : wq.heap.size ≤ wA1.heap.size := Nat.le_trans (by first | exact Nat.le_refl _ | simp) hgA1.size; have HC1 := hid ((HALF.out _).cells.below (below_grown0 hgA1)); have cj5 := (HC1.out.words (HALF.out 0).cj).2.2.2.2.2; clear hA1 hgA1) | (at_builtin; refine wpList_append_sl rfl (.tmp 82) (.tmp 87) rfl wq.heap.size v1 (.slice p' sl' sc') is d.items.toArray rfl rfl HA1.out ((HC1.out.its (HALF.out 0).cj).sl) (by simp; omega) hsa ?_; intro v2 wb hA2 hgA2; have HB2 := hid (HB1.out.trans (below_of_grown HA1.out hgA2 (Nat.le_refl _) hsa)); obtain ⟨p3, L3, c3', hv2, hA2'⟩ := own_form hA2; subst hv2; have HS3 : Hid (SlX wb (fun j => j = g ∨ F j) (p3, L3, c3') (is ++ d.items)) := SlX.of_own hA2' HLOW.out; have HC2 := hid (cells_grow (HALF.out _).cells HB2.out (by first | rfl | simp)); have HCHG := hid (chg_grow (HALF.out _).chg HB2.out (by first | rfl | simp)); obtain ⟨i0, i1, i2, i3, i4, i5⟩ := HC2.out.words (HALF.out 0).ci; obtain ⟨j0, j1, j2, j3, j4, j5⟩ := HC2.out.words (HALF.out 0).cj; obtain ⟨g0, g3, g4, g5⟩ := HC2.out.free (HALF.out 0).ci; obtain ⟨t0, t3, t4, t5⟩ := HC2.out.free (HALF.out 0).cj; have n1 : ¬ (ja * 6 = i * 6 + 5) := (by omega); have n2 : ¬ (ja * 6 + 5 = i * 6 + 5) := (by omega); have n3 : ¬ (ja * 6 + 5 = i * 6) := (by omega); have n4 : ¬ (ja * 6 + 3 = i * 6 + 5) := (by omega); have n5 : ¬ (ja * 6 + 3 = i * 6) := (by omega); have n6 : ¬ (ja * 6 + 4 = i * 6 + 5) := (by omega); have n7 : ¬ (ja * 6 + 4 = i * 6) := (by omega); have n8 : ¬ (i * 6 + 3 = ja * 6 + 5) := (by omega); clear hA2 hA2' hgA2; refine Hid.out ?_))
          clear HB1 HB2 HA1 HC1 hsa cj5 HLOW
          try simp only at i0 i1 i2 i3 i4
          have HM := hid (round_mem HC2.out hne (HALF.out 0).ci (HALF.out 0).cj HS3.out)
          have HPL := hid (taken_plain (s := (p3, L3, c3')) (s' := (none, 0, 0)) (c := ⟨k, r, m, l, ja, is⟩) (c1 := ⟨k, r, m, ja, l, is ++ d.items⟩) (d := d) (ja := ja) (m2 := l) (HALF.out 0).plain)
          obtain ⟨Q4, hQ4⟩ : ∃ Q4, ((Q1.set i (⟨k, r, m, ja, l, is ++ d.items⟩, p3, L3, c3')).set i (⟨d.key, r, m, ja, l, is ++ d.items⟩, p3, L3, c3')).set ja (⟨d.key, d.rank, d.want, d.left, d.right, []⟩, none, 0, 0) = Q4 := ⟨_, rfl⟩
          rw [hQ4] at HM
          have HTT : Hid (Taken (plainQ Q) (plainQ Q4) i ja f fl fm ⟨ka, r, m, ja, l, is ++ ia⟩ (.node ka ra wa [] la lb) (moreS a b) l) := by
            have h1 := HPL.out
            have h2 := HTk.out
            show Taken _ _ _ _ _ _ _ _ _ _ _
            rw [← hQ4]
            rw [show plainQ (((Q1.set i (⟨k, r, m, ja, l, is ++ d.items⟩, p3, L3, c3')).set i (⟨d.key, r, m, ja, l, is ++ d.items⟩, p3, L3, c3')).set ja (⟨d.key, d.rank, d.want, d.left, d.right, []⟩, none, 0, 0)) = _ from h1]
            exact h2
          clear hQ4 HPL HTk HALF HC2 HS3
          have HCW : Hid (Chg (fun j => j = g) w (((wb.setCell ⟨g, i * 6 + 5, none⟩ (.slice p3 L3 c3')).setCell ⟨g, i * 6, none⟩ (.int .i64 d.key)).setCell ⟨g, ja * 6 + 5, none⟩ (.slice none 0 0))) := ((HCHG.out.setCell (p := ⟨g, i * 6 + 5, none⟩) (Or.inl rfl) _).setCell (p := ⟨g, i * 6, none⟩) (Or.inl rfl) _).setCell (p := ⟨g, ja * 6 + 5, none⟩) (Or.inl rfl) _
          have hcc : Hid (is.length < m ∧ (a.none? = false ∨ b.none? = false)) := ⟨hlt'.out, hpt.out⟩
          obtain ⟨dk, dr, dw, dl, dm, di⟩ := d
          try simp only at j0 j1 j2 j3 j4 HNN HM HCW
          clear HDK HDI HCHG
          by_cases hd : dl < 0 ∧ dm < 0
          · obtain ⟨hd1, hd2⟩ := hd
            have hnn2 : (la.none? && lb.none?) = true := by rw [HNN.out]; simp [hd1, hd2]
            obtain ⟨z1, z2⟩ := rfill_leaf HMo.out HO.out HT.out HLn.out HG.out hcc.out HEL.out HTT.out HM.out HCW.out hnn2
            have HZ := hid z1
            clear z1 HMo HO HT HLn HG HEL HTT HM HCW hnn2 HNN hcc IH
            refine hid ?_
            go_wp2
            go_roundg (gk - 1)
            case measure => omega
            case rel => exact HZ.out
          · have hnn2 : (la.none? && lb.none?) = false := by
              rw [HNN.out]
              by_cases u : dl < 0
              · have v : ¬ dm < 0 := fun v => hd ⟨u, v⟩
                simp [u, v]
              · simp [u]
            have CD := hid (rfill_deep HMo.out HO.out HT.out HLn.out HG.out hcc.out HEL.out HTT.out HM.out HCW.out hnn2 IH.out)
            have hdd : ¬ (dl < 0) ∨ (dl < 0 ∧ ¬ (dm < 0)) := by omega
            clear HMo HO HT HLn HG HEL HTT HM HCW hnn2 HNN hcc IH hd
            rcases hdd with hd1 | ⟨hd1, hd2⟩
            all_goals
              refine hid ?_
              go_wp2_with fail
              refine CD.out.mono ?_
              rintro e w9 ⟨rfl, z1, z2⟩
              have HZ := hid z1
              clear z1 CD
              go_wp2
              go_roundg (gk - 1)
              case measure => omega
              case rel => exact HZ.out
      · have hl0' : 0 ≤ l := by omega
        have hpt : Hid (a.none? = false ∨ b.none? = false) := Or.inl (by rw [hla]; exact decide_eq_false hl0)
        by_cases hm0 : mm < 0
        · have hm0' : ¬ (0 ≤ mm) := by omega
          have hsw : swapS a b = false := by
            have ha : a.none? = false := by rw [hla]; exact decide_eq_false hl0
            have hb : b.none? = true := by rw [hmb]; exact decide_eq_true hm0
            unfold swapS; rw [ha, hb]; rfl
          have hmd : decide (0 ≤ mm) = false := decide_eq_false hm0'
          obtain ⟨ka, ra, wa, ia, la, lb, eL⟩ := less_node hpt.out
          obtain ⟨ja, d, hJ, hne, hAj, hdk, hdi, hnn, hTk⟩ := HR.out.taken HMo.out.nodup eL
          rw [hsw] at hJ hTk
          simp only [Bool.false_eq_true, if_false] at hJ hTk
          subst hJ
          have hjd : decide ((ja : Int) < 0) = false := decide_eq_false (by omega)
          have HTk := hid (hTk _ rfl)
          obtain ⟨⟨p', sl', sc'⟩, hQj⟩ := plainQ_get hAj
          have hjN : ja < N := by rw [← HC.out.len]; exact (List.getElem?_eq_some_iff.1 hQj).1
          have hjz : (ja : Int) < (N : Int) := by omega
          have HAJ := hid hAj
          have HQj := hid hQj
          have HNN := hid hnn
          have HDK := hid hdk
          have HDI := hid hdi
          have HEL := hid eL
          clear hAj hQj hnn hdk hdi hTk eL hla hmb hsw STOP
          go_wp2_with fail
          go_quiet (fail)
          generalize hwq : wr.drewN _ = wq
          have HCq : Hid (CellsAt EC wq base (.slice (some ⟨g, 0, none⟩) N cap) F Q) := by show CellsAt _ _ _ _ _ _; rw [← hwq]; exact HC.out.below (below_drewN (Below.refl _ _) _)
          have HChq : Hid (Chg (fun j => j = g) w wq) := by show Chg _ _ _; rw [← hwq]; exact HCh.out.dn _
          clear hwq c0 c1 c2 c3 c4 c5 f0' f3 f4 f5 HC HCh
          obtain ⟨c0, c1, c2, c3, c4, c5⟩ := HCq.out.words HQi.out
          obtain ⟨f0', f3, f4, f5⟩ := HCq.out.free HQi.out
          obtain ⟨Q1, HALF⟩ : ∃ Q1, Hid (∀ q, Half w wr (wq.drewN q) base g N cap F i ja k r m mm is d (plainQ Q) Q1 p sl sc p' sl' sc') := by
            refine ⟨Q, fun q => ?_⟩
            refine ⟨HCq.out.below (below_drewN (Below.refl _ _) q), HChq.out.dn q, ?_, HQj.out, fun X => rfl⟩
            exact HQi.out
          have hs0 : is.length ≤ 1000 := by have := HLn.out; simp only [List.length_append] at this; omega
          have hs1 : is.length + ia.length ≤ 1000 := by
            have h1 := (less_all a b).length_eq
            rw [HEL.out, SN.all_node] at h1
            have := HLn.out
            simp only [List.length_append] at this h1
            omega
          have hsd : is.length + d.items.length ≤ 1000 := by rw [HDI.out]; exact hs1
          have HLOW : Hid (∀ j, (j = g ∨ F j) → j < wq.heap.size) := by
            rintro j (z | z)
            · rw [z]; exact HCq.out.lt
            · exact HCq.out.low j z
          clear HCq HChq HQi HQj HAJ
          go_wp2_with fail
          go_quiet (fail)
          go_wp2_with (first | (at_builtin; refine wpList_append_sl rfl (.tmp 75) (.tmp 80) rfl wq.heap.size (.slice none 0 0) (.slice p sl sc) [] is.toArray rfl rfl (OwnI.nil _ _) (((HALF.out _).cells.its (HALF.out 0).ci).sl) (by simp; omega) (by first | exact Nat.le_refl _ | simp) ?_; intro v1 wA1 hA1 hgA1; have HA1 := hid hA1; have HB1 := hid ((below_grown0 hgA1).mono (show wq.heap.size ≤ _ by first | exact Nat.le_refl _ | simp)); have hsa : wq.heap.size ≤ wA1.heap.size := Nat.le_trans (by first | exact Nat.le_refl _ | simp) hgA1.size; have HC1 := hid ((HALF.out _).cells.below (below_grown0 hgA1)); have cj5 := (HC1.out.words (HALF.out 0).cj).2.2.2.2.2; clear hA1 hgA1) | (at_builtin; refine wpList_append_sl rfl (.tmp 82) (.tmp 87) rfl wq.heap.size v1 (.slice p' sl' sc') is d.items.toArray rfl rfl HA1.out ((HC1.out.its (HALF.out 0).cj).sl) (by simp; omega) hsa ?_; intro v2 wb hA2 hgA2; have HB2 := hid (HB1.out.trans (below_of_grown HA1.out hgA2 (Nat.le_refl _) hsa)); obtain ⟨p3, L3, c3', hv2, hA2'⟩ := own_form hA2; subst hv2; have HS3 : Hid (SlX wb (fun j => j = g ∨ F j) (p3, L3, c3') (is ++ d.items)) := SlX.of_own hA2' HLOW.out; have HC2 := hid (cells_grow (HALF.out _).cells HB2.out (by first | rfl | simp)); have HCHG := hid (chg_grow (HALF.out _).chg HB2.out (by first | rfl | simp)); obtain ⟨i0, i1, i2, i3, i4, i5⟩ := HC2.out.words (HALF.out 0).ci; obtain ⟨j0, j1, j2, j3, j4, j5⟩ := HC2.out.words (HALF.out 0).cj; obtain ⟨g0, g3, g4, g5⟩ := HC2.out.free (HALF.out 0).ci; obtain ⟨t0, t3, t4, t5⟩ := HC2.out.free (HALF.out 0).cj; have n1 : ¬ (ja * 6 = i * 6 + 5) := (by omega); have n2 : ¬ (ja * 6 + 5 = i * 6 + 5) := (by omega); have n3 : ¬ (ja * 6 + 5 = i * 6) := (by omega); have n4 : ¬ (ja * 6 + 3 = i * 6 + 5) := (by omega); have n5 : ¬ (ja * 6 + 3 = i * 6) := (by omega); have n6 : ¬ (ja * 6 + 4 = i * 6 + 5) := (by omega); have n7 : ¬ (ja * 6 + 4 = i * 6) := (by omega); have n8 : ¬ (i * 6 + 3 = ja * 6 + 5) := (by omega); clear hA2 hA2' hgA2; refine Hid.out ?_))
          clear HB1 HB2 HA1 HC1 hsa cj5 HLOW
          try simp only at i0 i1 i2 i3 i4
          have HM := hid (round_mem HC2.out hne (HALF.out 0).ci (HALF.out 0).cj HS3.out)
          have HPL := hid (taken_plain (s := (p3, L3, c3')) (s' := (none, 0, 0)) (c := ⟨k, r, m, ja, mm, is⟩) (c1 := ⟨k, r, m, ja, mm, is ++ d.items⟩) (d := d) (ja := ja) (m2 := mm) (HALF.out 0).plain)
          obtain ⟨Q4, hQ4⟩ : ∃ Q4, ((Q1.set i (⟨k, r, m, ja, mm, is ++ d.items⟩, p3, L3, c3')).set i (⟨d.key, r, m, ja, mm, is ++ d.items⟩, p3, L3, c3')).set ja (⟨d.key, d.rank, d.want, d.left, d.right, []⟩, none, 0, 0) = Q4 := ⟨_, rfl⟩
          rw [hQ4] at HM
          have HTT : Hid (Taken (plainQ Q) (plainQ Q4) i ja f fl fm ⟨ka, r, m, ja, mm, is ++ ia⟩ (.node ka ra wa [] la lb) (moreS a b) mm) := by
            have h1 := HPL.out
            have h2 := HTk.out
            show Taken _ _ _ _ _ _ _ _ _ _ _
            rw [← hQ4]
            rw [show plainQ (((Q1.set i (⟨k, r, m, ja, mm, is ++ d.items⟩, p3, L3, c3')).set i (⟨d.key, r, m, ja, mm, is ++ d.items⟩, p3, L3, c3')).set ja (⟨d.key, d.rank, d.want, d.left, d.right, []⟩, none, 0, 0)) = _ from h1]
            exact h2
          clear hQ4 HPL HTk HALF HC2 HS3
          have HCW : Hid (Chg (fun j => j = g) w (((wb.setCell ⟨g, i * 6 + 5, none⟩ (.slice p3 L3 c3')).setCell ⟨g, i * 6, none⟩ (.int .i64 d.key)).setCell ⟨g, ja * 6 + 5, none⟩ (.slice none 0 0))) := ((HCHG.out.setCell (p := ⟨g, i * 6 + 5, none⟩) (Or.inl rfl) _).setCell (p := ⟨g, i * 6, none⟩) (Or.inl rfl) _).setCell (p := ⟨g, ja * 6 + 5, none⟩) (Or.inl rfl) _
          have hcc : Hid (is.length < m ∧ (a.none? = false ∨ b.none? = false)) := ⟨hlt'.out, hpt.out⟩
          obtain ⟨dk, dr, dw, dl, dm, di⟩ := d
          try simp only at j0 j1 j2 j3 j4 HNN HM HCW
          clear HDK HDI HCHG
          by_cases hd : dl < 0 ∧ dm < 0
          · obtain ⟨hd1, hd2⟩ := hd
            have hnn2 : (la.none? && lb.none?) = true := by rw [HNN.out]; simp [hd1, hd2]
            obtain ⟨z1, z2⟩ := rfill_leaf HMo.out HO.out HT.out HLn.out HG.out hcc.out HEL.out HTT.out HM.out HCW.out hnn2
            have HZ := hid z1
            clear z1 HMo HO HT HLn HG HEL HTT HM HCW hnn2 HNN hcc IH
            refine hid ?_
            go_wp2
            go_roundg (gk - 1)
            case measure => omega
            case rel => exact HZ.out
          · have hnn2 : (la.none? && lb.none?) = false := by
              rw [HNN.out]
              by_cases u : dl < 0
              · have v : ¬ dm < 0 := fun v => hd ⟨u, v⟩
                simp [u, v]
              · simp [u]
            have CD := hid (rfill_deep HMo.out HO.out HT.out HLn.out HG.out hcc.out HEL.out HTT.out HM.out HCW.out hnn2 IH.out)
            have hdd : ¬ (dl < 0) ∨ (dl < 0 ∧ ¬ (dm < 0)) := by omega
            clear HMo HO HT HLn HG HEL HTT HM HCW hnn2 HNN hcc IH hd
            rcases hdd with hd1 | ⟨hd1, hd2⟩
            all_goals
              refine hid ?_
              go_wp2_with fail
              refine CD.out.mono ?_
              rintro e w9 ⟨rfl, z1, z2⟩
              have HZ := hid z1
              clear z1 CD
              go_wp2
              go_roundg (gk - 1)
              case measure => omega
              case rel => exact HZ.out
        · have hm0' : 0 ≤ mm := by omega
          have ha : a.none? = false := by rw [hla]; exact decide_eq_false hl0
          have hb : b.none? = false := by rw [hmb]; exact decide_eq_false hm0
          obtain ⟨ja', da, hja', hda, hka⟩ : ∃ (ja' : Nat) (da : SC × SlW), l = ja' ∧ Q[ja']? = some da ∧ da.1.key = a.key := two_a HRp.out ha HR.out
          obtain ⟨jb', db, hjb', hdb, hkb⟩ : ∃ (jb' : Nat) (db : SC × SlW), mm = jb' ∧ Q[jb']? = some db ∧ db.1.key = b.key := two_b HRp.out hb HR.out
          obtain ⟨da, pa1, pa2, pa3⟩ := da
          obtain ⟨db, pb1, pb2, pb3⟩ := db
          have haN : ja' < N := by rw [← HC.out.len]; exact (List.getElem?_eq_some_iff.1 hda).1
          have hbN : jb' < N := by rw [← HC.out.len]; exact (List.getElem?_eq_some_iff.1 hdb).1
          have haz : (ja' : Int) < (N : Int) := by omega
          have hbz : (jb' : Int) < (N : Int) := by omega
          simp only at hka hkb
          have hswk : swapS a b = decide (b.key < a.key) := by unfold swapS; rw [ha, hb]; rfl
          subst hja'
          subst hjb'
          obtain ⟨kA, hkA⟩ : ∃ kA, a.key = kA := ⟨_, rfl⟩
          obtain ⟨kB, hkB⟩ : ∃ kB, b.key = kB := ⟨_, rfl⟩
          rw [hkA] at hswk hka
          rw [hkB] at hswk hkb
          have HDA := hid hda
          have HDB := hid hdb
          have HKA := hid hka
          have HKB := hid hkb
          clear hkA hkB hda hdb hka hkb ha hb
          by_cases hkk : kB < kA
          · have hsw : swapS a b = true := by rw [hswk]; exact decide_eq_true hkk
            clear hswk
            obtain ⟨ka, ra, wa, ia, la, lb, eL⟩ := less_node hpt.out
            obtain ⟨ja, d, hJ, hne, hAj, hdk, hdi, hnn, hTk⟩ := HR.out.taken HMo.out.nodup eL
            rw [hsw] at hJ hTk
            simp only [if_true] at hJ hTk
            obtain rfl : ja = jb' := by omega
            have HTk := hid (hTk _ rfl)
            obtain ⟨⟨p', sl', sc'⟩, hQj⟩ := plainQ_get hAj
            have hjN : ja < N := by rw [← HC.out.len]; exact (List.getElem?_eq_some_iff.1 hQj).1
            have hjz : (ja : Int) < (N : Int) := by omega
            have HAJ := hid hAj
            have HQj := hid hQj
            have HNN := hid hnn
            have HDK := hid hdk
            have HDI := hid hdi
            have HEL := hid eL
            clear hAj hQj hnn hdk hdi hTk eL hla hmb hsw STOP
            go_wp2_with fail
            go_quiet (fail)
            generalize hwq : wr.drewN _ = wq
            have HCq : Hid (CellsAt EC wq base (.slice (some ⟨g, 0, none⟩) N cap) F Q) := by show CellsAt _ _ _ _ _ _; rw [← hwq]; exact HC.out.below (below_drewN (Below.refl _ _) _)
            have HChq : Hid (Chg (fun j => j = g) w wq) := by show Chg _ _ _; rw [← hwq]; exact HCh.out.dn _
            clear hwq c0 c1 c2 c3 c4 c5 f0' f3 f4 f5 HC HCh
            obtain ⟨c0, c1, c2, c3, c4, c5⟩ := HCq.out.words HQi.out
            obtain ⟨f0', f3, f4, f5⟩ := HCq.out.free HQi.out
            have kwa' : wq.cell? ⟨g, ja' * 6, none⟩ = some (.int .i64 kA) := by have := (HCq.out.words HDA.out).1; rw [HKA.out] at this; exact this
            have kwb' : wq.cell? ⟨g, ja * 6, none⟩ = some (.int .i64 kB) := by have := (HCq.out.words HDB.out).1; rw [HKB.out] at this; exact this
            clear HDA HDB HKA HKB
            obtain ⟨Q1, HALF⟩ : ∃ Q1, Hid (∀ q, Half w wr (((wq.drewN q).setCell ⟨g, i * 6 + 3, none⟩ (.int .i64 (ja : Int))).setCell ⟨g, i * 6 + 4, none⟩ (.int .i64 (ja' : Int))) base g N cap F i ja k r m (ja' : Int) is d (plainQ Q) Q1 p sl sc p' sl' sc') := by
              refine ⟨(Q.set i (⟨k, r, m, (ja : Int), (ja : Int), is⟩, p, sl, sc)).set i (⟨k, r, m, (ja : Int), (ja' : Int), is⟩, p, sl, sc), fun q => ?_⟩
              have hil : i < Q.length := (List.getElem?_eq_some_iff.1 HQi.out).1
              have h0 : CellsAt EC (wq.drewN q) base (.slice (some ⟨g, 0, none⟩) N cap) F Q := HCq.out.below (below_drewN (Below.refl _ _) q)
              have h1 := h0.putL HQi.out (ja : Int)
              have e1 : (Q.set i (⟨k, r, m, (ja : Int), (ja : Int), is⟩, p, sl, sc))[i]? = some (⟨k, r, m, (ja : Int), (ja : Int), is⟩, p, sl, sc) := List.getElem?_set_self hil
              have h2 := h1.putR e1 (ja' : Int)
              refine ⟨h2, ((HChq.out.dn q).setCell (p := ⟨g, i * 6 + 3, none⟩) (Or.inl rfl) _).setCell (p := ⟨g, i * 6 + 4, none⟩) (Or.inl rfl) _, ?_, ?_, fun X => ?_⟩
              · rw [List.getElem?_set_self (by simpa using hil)]
              · rw [List.getElem?_set_ne hne, List.getElem?_set_ne hne]; exact HQj.out
              · rw [plainQ_set, plainQ_set, List.set_set, List.set_set]
            have hs0 : is.length ≤ 1000 := by have := HLn.out; simp only [List.length_append] at this; omega
            have hs1 : is.length + ia.length ≤ 1000 := by
              have h1 := (less_all a b).length_eq
              rw [HEL.out, SN.all_node] at h1
              have := HLn.out
              simp only [List.length_append] at this h1
              omega
            have hsd : is.length + d.items.length ≤ 1000 := by rw [HDI.out]; exact hs1
            have HLOW : Hid (∀ j, (j = g ∨ F j) → j < wq.heap.size) := by
              rintro j (z | z)
              · rw [z]; exact HCq.out.lt
              · exact HCq.out.low j z
            clear HCq HChq HQi HQj HAJ
            go_wp2_with fail
            go_quiet (fail)
            go_wp2_with (first | (at_builtin; refine wpList_append_sl rfl (.tmp 75) (.tmp 80) rfl wq.heap.size (.slice none 0 0) (.slice p sl sc) [] is.toArray rfl rfl (OwnI.nil _ _) (((HALF.out _).cells.its (HALF.out 0).ci).sl) (by simp; omega) (by first | exact Nat.le_refl _ | simp) ?_; intro v1 wA1 hA1 hgA1; have HA1 := hid hA1; have HB1 := hid ((below_grown0 hgA1).mono (show wq.heap.size ≤ _ by first | exact Nat.le_refl _ | simp)); have hsa : wq.heap.size ≤ wA1.heap.size := Nat.le_trans (by first | exact Nat.le_refl _ | simp) hgA1.size; have HC1 := hid ((HALF.out _).cells.below (below_grown0 hgA1)); have cj5 := (HC1.out.words (HALF.out 0).cj).2.2.2.2.2; clear hA1 hgA1) | (at_builtin; refine wpList_append_sl rfl (.tmp 82) (.tmp 87) rfl wq.heap.size v1 (.slice p' sl' sc') is d.items.toArray rfl rfl HA1.out ((HC1.out.its (HALF.out 0).cj).sl) (by simp; omega) hsa ?_; intro v2 wb hA2 hgA2; have HB2 := hid (HB1.out.trans (below_of_grown HA1.out hgA2 (Nat.le_refl _) hsa)); obtain ⟨p3, L3, c3', hv2, hA2'⟩ := own_form hA2; subst hv2; have HS3 : Hid (SlX wb (fun j => j = g ∨ F j) (p3, L3, c3') (is ++ d.items)) := SlX.of_own hA2' HLOW.out; have HC2 := hid (cells_grow (HALF.out _).cells HB2.out (by first | rfl | simp)); have HCHG := hid (chg_grow (HALF.out _).chg HB2.out (by first | rfl | simp)); obtain ⟨i0, i1, i2, i3, i4, i5⟩ := HC2.out.words (HALF.out 0).ci; obtain ⟨j0, j1, j2, j3, j4, j5⟩ := HC2.out.words (HALF.out 0).cj; obtain ⟨g0, g3, g4, g5⟩ := HC2.out.free (HALF.out 0).ci; obtain ⟨t0, t3, t4, t5⟩ := HC2.out.free (HALF.out 0).cj; have n1 : ¬ (ja * 6 = i * 6 + 5) := (by omega); have n2 : ¬ (ja * 6 + 5 = i * 6 + 5) := (by omega); have n3 : ¬ (ja * 6 + 5 = i * 6) := (by omega); have n4 : ¬ (ja * 6 + 3 = i * 6 + 5) := (by omega); have n5 : ¬ (ja * 6 + 3 = i * 6) := (by omega); have n6 : ¬ (ja * 6 + 4 = i * 6 + 5) := (by omega); have n7 : ¬ (ja * 6 + 4 = i * 6) := (by omega); have n8 : ¬ (i * 6 + 3 = ja * 6 + 5) := (by omega); clear hA2 hA2' hgA2; refine Hid.out ?_))
            clear HB1 HB2 HA1 HC1 hsa cj5 HLOW
            try simp only at i0 i1 i2 i3 i4
            have HM := hid (round_mem HC2.out hne (HALF.out 0).ci (HALF.out 0).cj HS3.out)
            have HPL := hid (taken_plain (s := (p3, L3, c3')) (s' := (none, 0, 0)) (c := ⟨k, r, m, (ja' : Int), ja, is⟩) (c1 := ⟨k, r, m, ja, (ja' : Int), is ++ d.items⟩) (d := d) (ja := ja) (m2 := (ja' : Int)) (HALF.out 0).plain)
            obtain ⟨Q4, hQ4⟩ : ∃ Q4, ((Q1.set i (⟨k, r, m, ja, (ja' : Int), is ++ d.items⟩, p3, L3, c3')).set i (⟨d.key, r, m, ja, (ja' : Int), is ++ d.items⟩, p3, L3, c3')).set ja (⟨d.key, d.rank, d.want, d.left, d.right, []⟩, none, 0, 0) = Q4 := ⟨_, rfl⟩
            rw [hQ4] at HM
            have HTT : Hid (Taken (plainQ Q) (plainQ Q4) i ja f fl fm ⟨ka, r, m, ja, (ja' : Int), is ++ ia⟩ (.node ka ra wa [] la lb) (moreS a b) (ja' : Int)) := by
              have h1 := HPL.out
              have h2 := HTk.out
              show Taken _ _ _ _ _ _ _ _ _ _ _
              rw [← hQ4]
              rw [show plainQ (((Q1.set i (⟨k, r, m, ja, (ja' : Int), is ++ d.items⟩, p3, L3, c3')).set i (⟨d.key, r, m, ja, (ja' : Int), is ++ d.items⟩, p3, L3, c3')).set ja (⟨d.key, d.rank, d.want, d.left, d.right, []⟩, none, 0, 0)) = _ from h1]
              exact h2
            clear hQ4 HPL HTk HALF HC2 HS3
            have HCW : Hid (Chg (fun j => j = g) w (((wb.setCell ⟨g, i * 6 + 5, none⟩ (.slice p3 L3 c3')).setCell ⟨g, i * 6, none⟩ (.int .i64 d.key)).setCell ⟨g, ja * 6 + 5, none⟩ (.slice none 0 0))) := ((HCHG.out.setCell (p := ⟨g, i * 6 + 5, none⟩) (Or.inl rfl) _).setCell (p := ⟨g, i * 6, none⟩) (Or.inl rfl) _).setCell (p := ⟨g, ja * 6 + 5, none⟩) (Or.inl rfl) _
            have hcc : Hid (is.length < m ∧ (a.none? = false ∨ b.none? = false)) := ⟨hlt'.out, hpt.out⟩
            obtain ⟨dk, dr, dw, dl, dm, di⟩ := d
            try simp only at j0 j1 j2 j3 j4 HNN HM HCW
            clear HDK HDI HCHG
            by_cases hd : dl < 0 ∧ dm < 0
            · obtain ⟨hd1, hd2⟩ := hd
              have hnn2 : (la.none? && lb.none?) = true := by rw [HNN.out]; simp [hd1, hd2]
              obtain ⟨z1, z2⟩ := rfill_leaf HMo.out HO.out HT.out HLn.out HG.out hcc.out HEL.out HTT.out HM.out HCW.out hnn2
              have HZ := hid z1
              clear z1 HMo HO HT HLn HG HEL HTT HM HCW hnn2 HNN hcc IH
              refine hid ?_
              go_wp2
              go_roundg (gk - 1)
              case measure => omega
              case rel => exact HZ.out
            · have hnn2 : (la.none? && lb.none?) = false := by
                rw [HNN.out]
                by_cases u : dl < 0
                · have v : ¬ dm < 0 := fun v => hd ⟨u, v⟩
                  simp [u, v]
                · simp [u]
              have CD := hid (rfill_deep HMo.out HO.out HT.out HLn.out HG.out hcc.out HEL.out HTT.out HM.out HCW.out hnn2 IH.out)
              have hdd : ¬ (dl < 0) ∨ (dl < 0 ∧ ¬ (dm < 0)) := by omega
              clear HMo HO HT HLn HG HEL HTT HM HCW hnn2 HNN hcc IH hd
              rcases hdd with hd1 | ⟨hd1, hd2⟩
              all_goals
                refine hid ?_
                go_wp2_with fail
                refine CD.out.mono ?_
                rintro e w9 ⟨rfl, z1, z2⟩
                have HZ := hid z1
                clear z1 CD
                go_wp2
                go_roundg (gk - 1)
                case measure => omega
                case rel => exact HZ.out
          · have hsw : swapS a b = false := by rw [hswk]; exact decide_eq_false hkk
            clear hswk
            obtain ⟨ka, ra, wa, ia, la, lb, eL⟩ := less_node hpt.out
            obtain ⟨ja, d, hJ, hne, hAj, hdk, hdi, hnn, hTk⟩ := HR.out.taken HMo.out.nodup eL
            rw [hsw] at hJ hTk
            simp only [Bool.false_eq_true, if_false] at hJ hTk
            obtain rfl : ja = ja' := by omega
            have HTk := hid (hTk _ rfl)
            obtain ⟨⟨p', sl', sc'⟩, hQj⟩ := plainQ_get hAj
            have hjN : ja < N := by rw [← HC.out.len]; exact (List.getElem?_eq_some_iff.1 hQj).1
            have hjz : (ja : Int) < (N : Int) := by omega
            have HAJ := hid hAj
            have HQj := hid hQj
            have HNN := hid hnn
            have HDK := hid hdk
            have HDI := hid hdi
            have HEL := hid eL
            clear hAj hQj hnn hdk hdi hTk eL hla hmb hsw STOP
            go_wp2_with fail
            go_quiet (fail)
            generalize hwq : wr.drewN _ = wq
            have HCq : Hid (CellsAt EC wq base (.slice (some ⟨g, 0, none⟩) N cap) F Q) := by show CellsAt _ _ _ _ _ _; rw [← hwq]; exact HC.out.below (below_drewN (Below.refl _ _) _)
            have HChq : Hid (Chg (fun j => j = g) w wq) := by show Chg _ _ _; rw [← hwq]; exact HCh.out.dn _
            clear hwq c0 c1 c2 c3 c4 c5 f0' f3 f4 f5 HC HCh
            obtain ⟨c0, c1, c2, c3, c4, c5⟩ := HCq.out.words HQi.out
            obtain ⟨f0', f3, f4, f5⟩ := HCq.out.free HQi.out
            have kwa' : wq.cell? ⟨g, ja * 6, none⟩ = some (.int .i64 kA) := by have := (HCq.out.words HDA.out).1; rw [HKA.out] at this; exact this
            have kwb' : wq.cell? ⟨g, jb' * 6, none⟩ = some (.int .i64 kB) := by have := (HCq.out.words HDB.out).1; rw [HKB.out] at this; exact this
            clear HDA HDB HKA HKB
            obtain ⟨Q1, HALF⟩ : ∃ Q1, Hid (∀ q, Half w wr (wq.drewN q) base g N cap F i ja k r m (jb' : Int) is d (plainQ Q) Q1 p sl sc p' sl' sc') := by
              refine ⟨Q, fun q => ?_⟩
              refine ⟨HCq.out.below (below_drewN (Below.refl _ _) q), HChq.out.dn q, ?_, HQj.out, fun X => rfl⟩
              exact HQi.out
            have hs0 : is.length ≤ 1000 := by have := HLn.out; simp only [List.length_append] at this; omega
            have hs1 : is.length + ia.length ≤ 1000 := by
              have h1 := (less_all a b).length_eq
              rw [HEL.out, SN.all_node] at h1
              have := HLn.out
              simp only [List.length_append] at this h1
              omega
            have hsd : is.length + d.items.length ≤ 1000 := by rw [HDI.out]; exact hs1
            have HLOW : Hid (∀ j, (j = g ∨ F j) → j < wq.heap.size) := by
              rintro j (z | z)
              · rw [z]; exact HCq.out.lt
              · exact HCq.out.low j z
            clear HCq HChq HQi HQj HAJ
            go_wp2_with fail
            go_quiet (fail)
            go_wp2_with (first | (at_builtin; refine wpList_append_sl rfl (.tmp 75) (.tmp 80) rfl wq.heap.size (.slice none 0 0) (.slice p sl sc) [] is.toArray rfl rfl (OwnI.nil _ _) (((HALF.out _).cells.its (HALF.out 0).ci).sl) (by simp; omega) (by first | exact Nat.le_refl _ | simp) ?_; intro v1 wA1 hA1 hgA1; have HA1 := hid hA1; have HB1 := hid ((below_grown0 hgA1).mono (show wq.heap.size ≤ _ by first | exact Nat.le_refl _ | simp)); have hsa : wq.heap.size ≤ wA1.heap.size := Nat.le_trans (by first | exact Nat.le_refl _ | simp) hgA1.size; have HC1 := hid ((HALF.out _).cells.below (below_grown0 hgA1)); have cj5 := (HC1.out.words (HALF.out 0).cj).2.2.2.2.2; clear hA1 hgA1) | (at_builtin; refine wpList_append_sl rfl (.tmp 82) (.tmp 87) rfl wq.heap.size v1 (.slice p' sl' sc') is d.items.toArray rfl rfl HA1.out ((HC1.out.its (HALF.out 0).cj).sl) (by simp; omega) hsa ?_; intro v2 wb hA2 hgA2; have HB2 := hid (HB1.out.trans (below_of_grown HA1.out hgA2 (Nat.le_refl _) hsa)); obtain ⟨p3, L3, c3', hv2, hA2'⟩ := own_form hA2; subst hv2; have HS3 : Hid (SlX wb (fun j => j = g ∨ F j) (p3, L3, c3') (is ++ d.items)) := SlX.of_own hA2' HLOW.out; have HC2 := hid (cells_grow (HALF.out _).cells HB2.out (by first | rfl | simp)); have HCHG := hid (chg_grow (HALF.out _).chg HB2.out (by first | rfl | simp)); obtain ⟨i0, i1, i2, i3, i4, i5⟩ := HC2.out.words (HALF.out 0).ci; obtain ⟨j0, j1, j2, j3, j4, j5⟩ := HC2.out.words (HALF.out 0).cj; obtain ⟨g0, g3, g4, g5⟩ := HC2.out.free (HALF.out 0).ci; obtain ⟨t0, t3, t4, t5⟩ := HC2.out.free (HALF.out 0).cj; have n1 : ¬ (ja * 6 = i * 6 + 5) := (by omega); have n2 : ¬ (ja * 6 + 5 = i * 6 + 5) := (by omega); have n3 : ¬ (ja * 6 + 5 = i * 6) := (by omega); have n4 : ¬ (ja * 6 + 3 = i * 6 + 5) := (by omega); have n5 : ¬ (ja * 6 + 3 = i * 6) := (by omega); have n6 : ¬ (ja * 6 + 4 = i * 6 + 5) := (by omega); have n7 : ¬ (ja * 6 + 4 = i * 6) := (by omega); have n8 : ¬ (i * 6 + 3 = ja * 6 + 5) := (by omega); clear hA2 hA2' hgA2; refine Hid.out ?_))
            clear HB1 HB2 HA1 HC1 hsa cj5 HLOW
            try simp only at i0 i1 i2 i3 i4
            have HM := hid (round_mem HC2.out hne (HALF.out 0).ci (HALF.out 0).cj HS3.out)
            have HPL := hid (taken_plain (s := (p3, L3, c3')) (s' := (none, 0, 0)) (c := ⟨k, r, m, ja, (jb' : Int), is⟩) (c1 := ⟨k, r, m, ja, (jb' : Int), is ++ d.items⟩) (d := d) (ja := ja) (m2 := (jb' : Int)) (HALF.out 0).plain)
            obtain ⟨Q4, hQ4⟩ : ∃ Q4, ((Q1.set i (⟨k, r, m, ja, (jb' : Int), is ++ d.items⟩, p3, L3, c3')).set i (⟨d.key, r, m, ja, (jb' : Int), is ++ d.items⟩, p3, L3, c3')).set ja (⟨d.key, d.rank, d.want, d.left, d.right, []⟩, none, 0, 0) = Q4 := ⟨_, rfl⟩
            rw [hQ4] at HM
            have HTT : Hid (Taken (plainQ Q) (plainQ Q4) i ja f fl fm ⟨ka, r, m, ja, (jb' : Int), is ++ ia⟩ (.node ka ra wa [] la lb) (moreS a b) (jb' : Int)) := by
              have h1 := HPL.out
              have h2 := HTk.out
              show Taken _ _ _ _ _ _ _ _ _ _ _
              rw [← hQ4]
              rw [show plainQ (((Q1.set i (⟨k, r, m, ja, (jb' : Int), is ++ d.items⟩, p3, L3, c3')).set i (⟨d.key, r, m, ja, (jb' : Int), is ++ d.items⟩, p3, L3, c3')).set ja (⟨d.key, d.rank, d.want, d.left, d.right, []⟩, none, 0, 0)) = _ from h1]
              exact h2
            clear hQ4 HPL HTk HALF HC2 HS3
            have HCW : Hid (Chg (fun j => j = g) w (((wb.setCell ⟨g, i * 6 + 5, none⟩ (.slice p3 L3 c3')).setCell ⟨g, i * 6, none⟩ (.int .i64 d.key)).setCell ⟨g, ja * 6 + 5, none⟩ (.slice none 0 0))) := ((HCHG.out.setCell (p := ⟨g, i * 6 + 5, none⟩) (Or.inl rfl) _).setCell (p := ⟨g, i * 6, none⟩) (Or.inl rfl) _).setCell (p := ⟨g, ja * 6 + 5, none⟩) (Or.inl rfl) _
            have hcc : Hid (is.length < m ∧ (a.none? = false ∨ b.none? = false)) := ⟨hlt'.out, hpt.out⟩
            obtain ⟨dk, dr, dw, dl, dm, di⟩ := d
            try simp only at j0 j1 j2 j3 j4 HNN HM HCW
            clear HDK HDI HCHG
            by_cases hd : dl < 0 ∧ dm < 0
            · obtain ⟨hd1, hd2⟩ := hd
              have hnn2 : (la.none? && lb.none?) = true := by rw [HNN.out]; simp [hd1, hd2]
              obtain ⟨z1, z2⟩ := rfill_leaf HMo.out HO.out HT.out HLn.out HG.out hcc.out HEL.out HTT.out HM.out HCW.out hnn2
              have HZ := hid z1
              clear z1 HMo HO HT HLn HG HEL HTT HM HCW hnn2 HNN hcc IH
              refine hid ?_
              go_wp2
              go_roundg (gk - 1)
              case measure => omega
              case rel => exact HZ.out
            · have hnn2 : (la.none? && lb.none?) = false := by
                rw [HNN.out]
                by_cases u : dl < 0
                · have v : ¬ dm < 0 := fun v => hd ⟨u, v⟩
                  simp [u, v]
                · simp [u]
              have CD := hid (rfill_deep HMo.out HO.out HT.out HLn.out HG.out hcc.out HEL.out HTT.out HM.out HCW.out hnn2 IH.out)
              have hdd : ¬ (dl < 0) ∨ (dl < 0 ∧ ¬ (dm < 0)) := by omega
              clear HMo HO HT HLn HG HEL HTT HM HCW hnn2 HNN hcc IH hd
              rcases hdd with hd1 | ⟨hd1, hd2⟩
              all_goals
                refine hid ?_
                go_wp2_with fail
                refine CD.out.mono ?_
                rintro e w9 ⟨rfl, z1, z2⟩
                have HZ := hid z1
                clear z1 CD
                go_wp2
                go_roundg (gk - 1)
                case measure => omega
                case rel => exact HZ.out
    · have hlz : ¬ (sl : Int) < (m : Int) := by omega
      have hld : decide (sl < m) = false := decide_eq_false hlt
      have hlzd : decide ((sl : Int) < (m : Int)) = false := decide_eq_false hlz
      have ST := hid (STOP.out (fun z => hlt (by rw [HSL.out]; exact z.1)))
      clear STOP HC HRp HMo HCh HO HT HLn HG HR HQi HSL hla hmb
      go_wp2_with fail
      go_quiet (fail)
      go_wp2
      refine bodyPost_end (results_none rfl _ _ _) rfl ?_
      exact ⟨rfl, ST.out _⟩
#print axioms rfill_any
end Go.Proofs.YtdpfijhkbhmkgaaDoor
