/-
  The document's SoftPop, walked. (Written by wip/gen/refpop.py.)
-/
import Derived.Test.YtdpfijhkbhmkgaaDoorRefSA
import Derived.Test.YtdpfijhkbhmkgaaDoorSoQ
import Derived.Test.YtdpfijhkbhmkgaaDoorHide
namespace Go.Proofs.YtdpfijhkbhmkgaaDoor
open Go.RowKit Go.Sort Go.Proofs

set_option maxHeartbeats 16000000 in
set_option maxRecDepth 4000 in
theorem softPop_any {w : World} {base n r0 : Nat} {F : Nat → Prop} {cp tp : Option Addr} {cn cc tn tc : Nat} {ts : List SN} {k : Int} {r m : Nat} {x0 x1 rk pu : Int} {is : List (Int × Int)} {a b : SN} (hD : DocS w base F (cp, cn, cc) (tp, tn, tc) n ts) (hG : GoodS r0 n ts) (hm : (allS ts).length ≤ n) (hn : n ≤ 400) (e : ts[atS ts ts.length]? = some (.node k r m ((x0, x1) :: is) a b)) :
    Calls Tryd.prog 12 #[.agg #[.int .i64 rk, .int .i64 pu, .slice cp cn cc, .slice tp tn tc]] w fun e w' => ∃ t : SlW, e = .returned (.tuple #[.agg #[.int .i64 rk, .int .i64 pu, .slice cp cn cc, .slice t.1 t.2.1 t.2.2], .agg #[.int .i64 x0, .int .i64 x1], .int .i64 k]) ∧ DocS w' base F (cp, cn, cc) t n (popS ts) ∧ Chg (fun j => (Value.slice cp cn cc).ownBlock = some j) w w' := by
  obtain ⟨g, tb, i, l, mm, blk, off, sc, is0, ec, et, htn, htc, hbW, hsz, hH, htb, hg, hbl, c1, hi, c2, c3, hsc, c4, c5, f5, hla, hmb, hbx, hl0, hSRC, hCUT⟩ := pop_begin (rk := rk) (pu := pu) hD hG e rfl rfl
  subst ec et
  obtain ⟨N, hN⟩ : ∃ N, w.heap.size = N := ⟨_, rfl⟩
  rw [hN] at hsz htb hg hbl hbx hCUT
  have hA0 : atS ts ts.length < ts.length := (List.getElem?_eq_some_iff.1 e).1
  obtain ⟨L, hL⟩ : ∃ L, ts.length = L := ⟨_, rfl⟩
  have hcnz : ts.length ≤ 400 := by have := len_room ts; have := hG.room; omega
  have hgood := hG.good _ (List.mem_of_getElem? e)
  have HPOP := hidp (show popS ts = putS ts (atS ts ts.length) (takeS (.node k r m ((x0, x1) :: is) a b)) by unfold popS; rw [e]; rfl)
  have HALL := hidp (show (is ++ (a.all ++ b.all)).length ≤ 1000 by
    have h1 : (SN.node k r m ((x0, x1) :: is) a b).all.length ≤ (allS ts).length := by
      have hs := split_at ts _ e
      rw [hs, allS_append, allS_cons]; simp only [List.length_append]; omega
    rw [SN.all_node] at h1
    simp only [List.cons_append, List.length_cons] at h1
    omega)
  have hop : OpenN r0 k r m is a b := by
    obtain ⟨h1, h2, h3, h4, h5⟩ := good_node.1 hgood.1
    have hmost : is.length ≤ mostR r0 r := by have := h1.most; simp only [List.length_cons] at this; omega
    exact ⟨h1.want, hmost, fun y hy => h1.low y (List.mem_cons_of_mem _ hy), fun q y hy => h1.same q y (List.mem_cons_of_mem _ hy), h2, h3, fun q => (h4 q).1, fun q => (h5 q).1, fun _ q => (h4 q).2, fun _ q => (h5 q).2⟩
  have hmz : m ≤ 3000000 := by
    have h1 := (good_node.1 hgood.1).1.want
    have h2 := wantR_pow r0 r
    have h3 : 2 ^ r ≤ roomS ts := by
      have hs := split_at ts _ e
      rw [hs, roomS_append, roomS_cons]
      have : 2 ^ (SN.node k r m ((x0, x1) :: is) a b).rank = 2 ^ r := rfl
      omega
    have h4 := hG.room
    omega
  rw [hL] at htn hA0 hcnz HPOP hCUT c1
  obtain ⟨A0, hA⟩ : ∃ A0, atS ts L = A0 := ⟨_, rfl⟩
  rw [hA] at hA0 HPOP hCUT c1
  have HA := hidp hA
  have HL := hidp hL
  have HH := hidp hH
  have HN := hidp hN
  have HBW := hidp hbW
  have HSRC := hidp hSRC
  have HCUT := hidp hCUT
  have HOP := hidp hop
  have HL0 := hidp hl0
  have HLA := hidp hla
  have HMB := hidp hmb
  obtain rfl : tn = L := htn
  obtain ⟨LI, hLI⟩ : ∃ LI, is.length = LI := ⟨_, rfl⟩
  rw [hLI] at c3 hsc
  have HLI := hidp hLI
  obtain ⟨e0, e1, e2, e3⟩ : _ ∧ _ ∧ _ ∧ _ := ⟨hbx.cell (j := 0) rfl, hbx.cell (j := 1) rfl, hbx.cell (j := 2) rfl, hbx.cell (j := 3) rfl⟩
  have HBX := hidp hbx
  clear hD hG hm hn e hA hL hH hN hbW hSRC hCUT hop hgood hLI hbx hl0 hla hmb
  go_enter Tryd.func12, Tryd.ntmps12
  go_wp2_with fail
  generalize hW3 : World.alloc _ _ = W3 at c1 c2 c3 c4 c5 f5 e0 e1 e2 e3 hsz HH HBW HCUT HBX ⊢
  rw [HN.out]
  go_loopg [5, 6] tn (fun gg v5 v6 wr => ∃ j A q : Nat, v5 = .int .i64 A ∧ v6 = .int .i64 j ∧ Hid (A = atS ts j) ∧ A < tn ∧ j ≤ tn ∧ tn - j ≤ gg ∧ wr = W3.drewN q)
  case atStart => exact ⟨0, 0, 0, rfl, rfl, by show _ = _; rfl, by omega, Nat.zero_le _, by omega, rfl⟩
  case round =>
    obtain ⟨j, A, q, rfl, rfl, HAJ, hAt, hj, hgg, rfl⟩ := hrel
    rcases Nat.lt_or_ge j tn with hlt | hge
    · have hz : (j : Int) < (tn : Int) := by omega
      have hAz : (A : Int) < (tn : Int) := by omega
      obtain ⟨ti, hti⟩ : ∃ t, ts[j]? = some t := ⟨_, List.getElem?_eq_getElem (by rw [HL.out]; exact hlt)⟩
      obtain ⟨ta, hta⟩ : ∃ t, ts[A]? = some t := ⟨_, List.getElem?_eq_getElem (by rw [HL.out]; exact hAt)⟩
      obtain ⟨qi, y1, y2, y3, y4, y5⟩ := HH.out j ti hti
      obtain ⟨qa, z1, _, _, z4, z5⟩ := HH.out A ta hta
      have y1z : (qi : Int) < (cn : Int) := by omega
      have z1z : (qa : Int) < (cn : Int) := by omega
      obtain ⟨ki, hki⟩ : ∃ ki, ti.key = ki := ⟨_, rfl⟩
      obtain ⟨ka, hka⟩ : ∃ ka, ta.key = ka := ⟨_, rfl⟩
      have hst : Hid (atS ts (j + 1) = if ki < ka then j else A) := by
        show _ = _
        have h1 := HAJ.out
        simp only [atS]
        rw [← h1, hti, hta]
        show (if ti.key < ta.key then j else A) = _
        rw [hki, hka]
      rw [hki] at y5
      rw [hka] at z5
      clear hki hka hti hta c1 c2 c3 c4 c5 f5
      by_cases hk : ki < ka
      · go_wp2_with fail
        go_quiet (fail)
        go_wp2
        go_roundg (tn - (j + 1))
        case measure => omega
        case rel => exact ⟨j + 1, j, _, rfl, by go_num, by show _ = _; rw [hst.out, if_pos hk], hlt, by omega, Nat.le_refl _, by first | rfl | rw [World.drewN_drewN]⟩
      · go_wp2_with fail
        go_quiet (fail)
        go_wp2
        go_roundg (tn - (j + 1))
        case measure => omega
        case rel => exact ⟨j + 1, A, _, rfl, by go_num, by show _ = _; rw [hst.out, if_neg (by omega)], hAt, by omega, Nat.le_refl _, by first | rfl | rw [World.drewN_drewN]⟩
    · obtain rfl : j = tn := by omega
      have hz : ¬ ((j : Int) < (j : Int)) := by omega
      have eA : A = A0 := by rw [HAJ.out]; exact HA.out
      subst eA
      have hAz : (A : Int) < (j : Int) := by omega
      have hiz : (i : Int) < (cn : Int) := by omega
      have hscz : (LI : Int) + 1 ≤ (sc : Int) := by omega
      generalize hwq : W3.drewN q = wq
      have HBQ : Hid (Below W3.heap.size W3 wq) := by show Below _ _ _; rw [← hwq]; exact below_drewN (Below.refl _ _) _
      have c1q : wq.cell? ⟨tb, A, none⟩ = some (.int .i64 (i : Int)) := by rw [← hwq]; exact c1
      have c2q : wq.cell? ⟨g, i * 6, none⟩ = some (.int .i64 k) := by rw [← hwq]; exact c2
      have c3q : wq.cell? ⟨g, i * 6 + 5, none⟩ = some (.slice (some ⟨blk, off, none⟩) (LI + 1) sc) := by rw [← hwq]; exact c3
      have c4q : wq.cell? ⟨blk, off, none⟩ = some (.int .i64 x0) := by rw [← hwq]; exact c4
      have c5q : wq.cell? ⟨blk, off + 1, none⟩ = some (.int .i64 x1) := by rw [← hwq]; exact c5
      have f5q : wq.frozen? ⟨g, i * 6 + 5, none⟩ = false := by rw [← hwq]; exact f5
      have e2q : wq.cell? ⟨N, 2, none⟩ = some (.slice (some ⟨g, 0, none⟩) cn cc) := by rw [← hwq]; exact e2
      have e3q : wq.cell? ⟨N, 3, none⟩ = some (.slice (some ⟨tb, 0, none⟩) j tc) := by rw [← hwq]; exact e3
      have hszq : wq.heap.size = N + 3 := by rw [← hwq]; exact hsz
      clear hwq c1 c2 c3 c4 c5 f5 e0 e1 e2 e3 HH HAJ hgg
      have l1 : tb < wq.heap.size := by omega
      have l2 : g < wq.heap.size := by omega
      have l3 : blk < wq.heap.size := by omega
      have l4 : N < wq.heap.size := by omega
      have HSZ := hidp hszq
      clear hszq hsz
      rcases Nat.lt_or_ge 1 sc with hs1 | hs1
      · have hs1z : (1 : Int) < (sc : Int) := by omega
        go_wp2_with fail
        go_region
        have HE : Hid (PopE w base F N n ts g cn cc tb j tc i A k r m l mm is a b (some ⟨blk, off + 2, none⟩) LI (sc - 1) is0 rk pu x0 x1 wq.heap.size ((wq.setCell ⟨g, i * 6 + 5, none⟩ (.slice (some ⟨blk, off + 2, none⟩) LI (sc - 1))).alloc (.cells #[.int .i64 x0, .int .i64 x1] 30)).drew) := by
          have hbx : Below W3.heap.size W3 (wq.alloc (.cells #[.int .i64 x0, .int .i64 x1] 30)).drew := (HBQ.out.alloc HBQ.out.size _).drew
          have := HCUT.out _ wq.heap.size (some ⟨blk, off + 2, none⟩) LI (sc - 1) hbx ((BlkAt.new wq _ _).below ((Below.refl _ _).drew)) (by rw [HSZ.out]; omega) (Or.inl rfl) HLI.out.symm (by rw [HLI.out]; omega)
          rw [World.setCell_drew, World.setCell_alloc_past _ _ _ _ l2] at this
          exact this
        have hMz : wq.heap.size = N + 3 := HSZ.out
        clear HCUT c1q c2q c3q c4q c5q f5q e2q e3q l1 l2 l3 l4 HBQ HBX
        rw [hMz] at HE ⊢
        clear hMz HSZ
        generalize ((wq.setCell _ _).alloc _).drew = wr at HE ⊢
        obtain ⟨-, g2, -, g3, g4, g5, g6, g7⟩ := HE.out.words
        obtain ⟨e0, e1, e2, e3⟩ : _ ∧ _ ∧ _ ∧ _ := ⟨HE.out.box.cell (j := 0) rfl, HE.out.box.cell (j := 1) rfl, HE.out.box.cell (j := 2) rfl, HE.out.box.cell (j := 3) rfl⟩
        have l4 := HE.out.box.lt
        have hLIb : LI ≤ 1000 := by have h1 := HALL.out; have h2 := HLI.out; simp only [List.length_append] at h1; omega
        by_cases h2 : 2 * LI ≤ m
        · by_cases hl : l < 0
          · by_cases hm : mm < 0
            · have hln : ¬ (0 ≤ l) := by omega
              have hld : decide (0 ≤ l) = false := decide_eq_false (by omega)
              have hmn : ¬ (0 ≤ mm) := by omega
              have hmd : decide (0 ≤ mm) = false := decide_eq_false (by omega)
              have h2z : (2 * (LI : Int)) ≤ (m : Int) := by omega
              have h2d : decide (2 * (LI : Int) ≤ (m : Int)) = true := decide_eq_true h2z
              have h2e : decide (2 * LI ≤ m) = true := decide_eq_true h2
              rcases Nat.eq_zero_or_pos LI with hz0 | hz0
              · subst hz0
                obtain ⟨hpg, ha0, hb0⟩ := pop_gone HPOP.out (fun z => (z.2.elim (fun y => by rw [HLA.out, decide_eq_true (by omega)] at y; cases y) (fun y => by rw [HMB.out, decide_eq_true (by omega)] at y; cases y))) (List.eq_nil_of_length_eq_zero HLI.out)
                have HPF := hidp hpg
                have his0 : is = [] := (List.eq_nil_of_length_eq_zero HLI.out)
                subst ha0 hb0 his0
                have HGO := hidp (fun (W : World) p7 l7 c7 (hb : Below wr.heap.size wr W) (ho : OwnE ET W wr.heap.size (.slice p7 l7 c7) (is0.eraseIdx A)) => HE.out.go (p7 := p7) (l7 := l7) (c7 := c7) HN.out hb ho)
                have HBX2 := hidp HE.out.box
                have HRES := hidp HE.out.res
                have HRIT := hidp HE.out.rit
                have HITM := hidp HE.out.itm
                have STK := hidp (src_take (k := A) HE.out.num.2.2)
                have SDR := hidp (src_of (k := A + 1) HE.out.num.2.2)
                have HTK : Hid ((is0.take A).length = A) := by show _ = _; rw [List.length_take, HL0.out]; omega
                have HDR : Hid ((is0.drop (A + 1)).length = j - (A + 1)) := by show _ = _; rw [List.length_drop, HL0.out]
                have HER : Hid (is0.eraseIdx A = is0.take A ++ is0.drop (A + 1)) := List.eraseIdx_eq_take_drop_succ _ _
                have hAc : (A : Int) ≤ (tc : Int) := by omega
                have hAc2 : (A : Int) + 1 ≤ (j : Int) := by omega
                have hAc3 : (A : Int) + 1 ≤ (tc : Int) := by omega
                have hjtc : (j : Int) ≤ (tc : Int) := by omega
                clear hpg HE HPOP HOP HALL HSRC HLA HMB
                rcases Nat.lt_or_ge (A + 1) tc with hq | hq
                · have hqz : (A : Int) + 1 < (tc : Int) := by omega
                  go_wp2_with fail
                  go_quiet (fail)
                  go_wp2_with (first | (at_builtin; refine wpList_appendX ET rfl (.tmp 116) (.tmp 120) rfl wr.heap.size (.slice none 0 0) [] (is0.take A) ⟨tb, 0, none⟩ _ _ rfl (OwnE.nil ET _ _) rfl HTK.out (STK.out _ (below_drewN (Below.refl _ wr) _)) (by simp only [List.length_nil]; omega) (by simp) ?_; intro v6 w6 ho6 hg6; have hB6 : Below wr.heap.size wr w6 := (below_drewN (Below.refl _ wr) _).trans ((grown_nil hg6).mono (by simp)); clear hg6; have k2 := (HBX2.out.below hB6).cell (j := 2) rfl; have k3 := (HBX2.out.below hB6).cell (j := 3) rfl; have kl := (HBX2.out.below hB6).lt; clear e0 e1 e2 e3 l4 g2 g3 g4 g5 g6 g7) | (at_builtin; refine wpList_appendX ET rfl (.tmp 122) (.tmp 127) rfl wr.heap.size v6 ([] ++ is0.take A) (is0.drop (A + 1)) ⟨tb, A + 1, none⟩ _ _ rfl ho6 rfl HDR.out (SDR.out.2 _ hB6) (by rw [List.length_append, HTK.out]; simp only [List.length_nil]; omega) hB6.size ?_; intro v7 w7 ho7 hg7; have hB7 : Below wr.heap.size wr w7 := hB6.trans (below_ownE ho6 hg7 (Nat.le_refl _) hB6.size); clear hg7 ho6 k2 k3 kl; have KB := HBX2.out.below hB7; have KR := HRES.out.below hB7; have KI := HRIT.out.below hB7; have KX := HITM.out.below hB7; have kf3 := KB.fr 3; have l3 := KB.cell (j := 3) rfl; have lk := KB.lt; obtain ⟨p7, l7, c7, rfl, ho7⟩ := num_form ho7))
                  obtain ⟨e0, e1, e2, e3⟩ : _ ∧ _ ∧ _ ∧ _ := ⟨KB.cell (j := 0) rfl, KB.cell (j := 1) rfl, KB.cell (j := 2) rfl, KB.cell (j := 3) rfl⟩
                  obtain ⟨m0, m1, m2, m3⟩ : _ ∧ _ ∧ _ ∧ _ := ⟨KR.cell (j := 0) rfl, KR.cell (j := 1) rfl, KR.cell (j := 2) rfl, KR.cell (j := 3) rfl⟩
                  obtain ⟨mf0, mf1, mf2, mf3⟩ : _ ∧ _ ∧ _ ∧ _ := ⟨KR.fr 0, KR.fr 1, KR.fr 2, KR.fr 3⟩
                  obtain ⟨o0, o1, of0, of1⟩ : _ ∧ _ ∧ _ ∧ _ := ⟨KI.cell (j := 0) rfl, KI.cell (j := 1) rfl, KI.fr 0, KI.fr 1⟩
                  obtain ⟨t0, t1⟩ : _ ∧ _ := ⟨KX.cell (j := 0) rfl, KX.cell (j := 1) rfl⟩
                  have lb0 := KB.lt
                  have lb1 := KR.lt
                  have lb2 := KI.lt
                  have lb3 := KX.lt
                  clear KB KR KI KX
                  have hfin := HGO.out w7 p7 l7 c7 hB7 (by rw [HER.out]; simpa using ho7)
                  rw [← HPF.out] at hfin
                  have HFIN := hidp hfin
                  clear hfin
                  go_wp2_with fail
                  go_region
                  go_wp2
                  exact bodyPost_ret (v := .tuple #[.agg #[.int .i64 rk, .int .i64 pu, .slice (some ⟨g, 0, none⟩) cn cc, .slice p7 l7 c7], .agg #[.int .i64 x0, .int .i64 x1], .int .i64 k]) (by simp [results, Tryd.results12, go_sem, m0, m1, m2, m3, o0, o1]) rfl ⟨(p7, l7, c7), rfl, (HFIN.out _ (chg_outT _ N _ _ _ _ _ _ _)).1, (HFIN.out _ (chg_outT _ N _ _ _ _ _ _ _)).2.mono (fun x z => Or.inl (by rw [z]; rfl))⟩
                · obtain rfl : tc = A + 1 := by omega
                  obtain rfl : j = A + 1 := by omega
                  go_wp2_with fail
                  go_quiet (fail)
                  go_wp2_with (first | (at_builtin; refine wpList_appendX ET rfl (.tmp 116) (.tmp 120) rfl wr.heap.size (.slice none 0 0) [] (is0.take A) ⟨tb, 0, none⟩ _ _ rfl (OwnE.nil ET _ _) rfl HTK.out (STK.out _ (below_drewN (Below.refl _ wr) _)) (by simp only [List.length_nil]; omega) (by simp) ?_; intro v6 w6 ho6 hg6; have hB6 : Below wr.heap.size wr w6 := (below_drewN (Below.refl _ wr) _).trans ((grown_nil hg6).mono (by simp)); clear hg6; have k2 := (HBX2.out.below hB6).cell (j := 2) rfl; have k3 := (HBX2.out.below hB6).cell (j := 3) rfl; have kl := (HBX2.out.below hB6).lt; clear e0 e1 e2 e3 l4 g2 g3 g4 g5 g6 g7) | (at_builtin; refine wpList_appendX ET rfl (.tmp 122) (.tmp 127) rfl wr.heap.size v6 ([] ++ is0.take A) [] _ _ _ rfl ho6 rfl rfl src_nil (by rw [List.length_append, HTK.out]; simp only [List.length_nil]; omega) hB6.size ?_; intro v7 w7 ho7 hg7; have hB7 : Below wr.heap.size wr w7 := hB6.trans (below_ownE ho6 hg7 (Nat.le_refl _) hB6.size); clear hg7 ho6 k2 k3 kl; have KB := HBX2.out.below hB7; have KR := HRES.out.below hB7; have KI := HRIT.out.below hB7; have KX := HITM.out.below hB7; have kf3 := KB.fr 3; have l3 := KB.cell (j := 3) rfl; have lk := KB.lt; obtain ⟨p7, l7, c7, rfl, ho7⟩ := num_form ho7))
                  obtain ⟨e0, e1, e2, e3⟩ : _ ∧ _ ∧ _ ∧ _ := ⟨KB.cell (j := 0) rfl, KB.cell (j := 1) rfl, KB.cell (j := 2) rfl, KB.cell (j := 3) rfl⟩
                  obtain ⟨m0, m1, m2, m3⟩ : _ ∧ _ ∧ _ ∧ _ := ⟨KR.cell (j := 0) rfl, KR.cell (j := 1) rfl, KR.cell (j := 2) rfl, KR.cell (j := 3) rfl⟩
                  obtain ⟨mf0, mf1, mf2, mf3⟩ : _ ∧ _ ∧ _ ∧ _ := ⟨KR.fr 0, KR.fr 1, KR.fr 2, KR.fr 3⟩
                  obtain ⟨o0, o1, of0, of1⟩ : _ ∧ _ ∧ _ ∧ _ := ⟨KI.cell (j := 0) rfl, KI.cell (j := 1) rfl, KI.fr 0, KI.fr 1⟩
                  obtain ⟨t0, t1⟩ : _ ∧ _ := ⟨KX.cell (j := 0) rfl, KX.cell (j := 1) rfl⟩
                  have lb0 := KB.lt
                  have lb1 := KR.lt
                  have lb2 := KI.lt
                  have lb3 := KX.lt
                  clear KB KR KI KX
                  have hdr0 : is0.drop (A + 1) = [] := List.drop_eq_nil_of_le (by rw [HL0.out]; omega)
                  have hfin := HGO.out w7 p7 l7 c7 hB7 (by rw [HER.out, hdr0]; simpa using ho7)
                  rw [← HPF.out] at hfin
                  have HFIN := hidp hfin
                  clear hfin hdr0
                  go_wp2_with fail
                  go_region
                  go_wp2
                  exact bodyPost_ret (v := .tuple #[.agg #[.int .i64 rk, .int .i64 pu, .slice (some ⟨g, 0, none⟩) cn cc, .slice p7 l7 c7], .agg #[.int .i64 x0, .int .i64 x1], .int .i64 k]) (by simp [results, Tryd.results12, go_sem, m0, m1, m2, m3, o0, o1]) rfl ⟨(p7, l7, c7), rfl, (HFIN.out _ (chg_outT _ N _ _ _ _ _ _ _)).1, (HFIN.out _ (chg_outT _ N _ _ _ _ _ _ _)).2.mono (fun x z => Or.inl (by rw [z]; rfl))⟩
              · have HPF := hidp (pop_stay HPOP.out (fun z => (z.2.elim (fun y => by rw [HLA.out, decide_eq_true (by omega)] at y; cases y) (fun y => by rw [HMB.out, decide_eq_true (by omega)] at y; cases y))) (fun y => by have := HLI.out; rw [y] at this; simp at this; omega))
                have HFIN : Hid (∀ q W9, Chg (fun j => N ≤ j ∧ j < N + 3) (wr.drewN q) W9 → DocS W9 base F (some ⟨g, 0, none⟩, cn, cc) (some ⟨tb, 0, none⟩, j, tc) n (popS ts) ∧ Chg (fun j => j = g) w W9) := fun q W9 hc => by
                  rw [HPF.out]
                  exact (HE.out.below (below_drewN (Below.refl wr.heap.size wr) q)).stay HN.out W9 hc
                clear e0 e1 e2 e3 l4
                have KB := HE.out.box
                have KR := HE.out.res
                have KI := HE.out.rit
                have KX := HE.out.itm
                obtain ⟨e0, e1, e2, e3⟩ : _ ∧ _ ∧ _ ∧ _ := ⟨KB.cell (j := 0) rfl, KB.cell (j := 1) rfl, KB.cell (j := 2) rfl, KB.cell (j := 3) rfl⟩
                obtain ⟨m0, m1, m2, m3⟩ : _ ∧ _ ∧ _ ∧ _ := ⟨KR.cell (j := 0) rfl, KR.cell (j := 1) rfl, KR.cell (j := 2) rfl, KR.cell (j := 3) rfl⟩
                obtain ⟨mf0, mf1, mf2, mf3⟩ : _ ∧ _ ∧ _ ∧ _ := ⟨KR.fr 0, KR.fr 1, KR.fr 2, KR.fr 3⟩
                obtain ⟨o0, o1, of0, of1⟩ : _ ∧ _ ∧ _ ∧ _ := ⟨KI.cell (j := 0) rfl, KI.cell (j := 1) rfl, KI.fr 0, KI.fr 1⟩
                obtain ⟨t0, t1⟩ : _ ∧ _ := ⟨KX.cell (j := 0) rfl, KX.cell (j := 1) rfl⟩
                have lb0 := KB.lt
                have lb1 := KR.lt
                have lb2 := KI.lt
                have lb3 := KX.lt
                clear KB KR KI KX
                have k6z : ¬ ((LI : Int) = 0) := by omega
                have k6b : ((LI : Int) == 0) = false := beq_eq_false_iff_ne.2 k6z
                clear HE HOP HALL HPOP HLA HMB HSRC HPF
                go_wp2_with fail
                go_quiet (fail)
                go_wp2_with fail
                go_region
                go_wp2
                exact bodyPost_ret (v := .tuple #[.agg #[.int .i64 rk, .int .i64 pu, .slice (some ⟨g, 0, none⟩) cn cc, .slice (some ⟨tb, 0, none⟩) j tc], .agg #[.int .i64 x0, .int .i64 x1], .int .i64 k]) (by simp [results, Tryd.results12, go_sem, m0, m1, m2, m3, o0, o1]) rfl ⟨((some ⟨tb, 0, none⟩), j, tc), rfl, ((HFIN.out _) _ (chg_out _ N _ _ _ _ _ _)).1, ((HFIN.out _) _ (chg_out _ N _ _ _ _ _ _)).2.mono (fun x z => Or.inl (by rw [z]; rfl))⟩
            · have hln : ¬ (0 ≤ l) := by omega
              have hld : decide (0 ≤ l) = false := decide_eq_false (by omega)
              have hm0 : 0 ≤ mm := by omega
              have hmd : decide (0 ≤ mm) = true := decide_eq_true (by omega)
              have h2z : (2 * (LI : Int)) ≤ (m : Int) := by omega
              have h2d : decide (2 * (LI : Int) ≤ (m : Int)) = true := decide_eq_true h2z
              have h2e : decide (2 * LI ≤ m) = true := decide_eq_true h2
              have CF := hidp (fun q => (HE.out.below (below_drewN (Below.refl wr.heap.size wr) q)).fill HOP.out HALL.out (Or.inr (by rw [HMB.out]; exact decide_eq_false (by omega))) HN.out)
              have HPF := hidp (pop_fill HPOP.out HOP.out ⟨by rw [HLI.out]; omega, Or.inr (by rw [HMB.out]; exact decide_eq_false (by omega))⟩)
              clear HE HOP HALL HPOP HLA HMB HSRC
              go_wp2_with fail
              go_quiet (fail)
              go_wp2_with fail
              refine (CF.out _).mono ?_
              rintro e w9 ⟨rfl, p9, sl9, sc9, k5, k6, k7, KB, KR, KI, KX, hfin⟩
              rw [← HPF.out] at hfin
              have HFIN := hidp hfin
              clear hfin CF HPF e0 e1 e2 e3 g2 g3 g4 g5 g6 g7 l4
              have k6z : ¬ ((sl9 : Int) = 0) := by omega
              have k6b : ((sl9 : Int) == 0) = false := beq_eq_false_iff_ne.2 k6z
              obtain ⟨e0, e1, e2, e3⟩ : _ ∧ _ ∧ _ ∧ _ := ⟨KB.cell (j := 0) rfl, KB.cell (j := 1) rfl, KB.cell (j := 2) rfl, KB.cell (j := 3) rfl⟩
              obtain ⟨m0, m1, m2, m3⟩ : _ ∧ _ ∧ _ ∧ _ := ⟨KR.cell (j := 0) rfl, KR.cell (j := 1) rfl, KR.cell (j := 2) rfl, KR.cell (j := 3) rfl⟩
              obtain ⟨mf0, mf1, mf2, mf3⟩ : _ ∧ _ ∧ _ ∧ _ := ⟨KR.fr 0, KR.fr 1, KR.fr 2, KR.fr 3⟩
              obtain ⟨o0, o1, of0, of1⟩ : _ ∧ _ ∧ _ ∧ _ := ⟨KI.cell (j := 0) rfl, KI.cell (j := 1) rfl, KI.fr 0, KI.fr 1⟩
              obtain ⟨t0, t1⟩ : _ ∧ _ := ⟨KX.cell (j := 0) rfl, KX.cell (j := 1) rfl⟩
              have lb0 := KB.lt
              have lb1 := KR.lt
              have lb2 := KI.lt
              have lb3 := KX.lt
              clear KB KR KI KX
              go_wp2_with fail
              go_region
              go_wp2
              exact bodyPost_ret (v := .tuple #[.agg #[.int .i64 rk, .int .i64 pu, .slice (some ⟨g, 0, none⟩) cn cc, .slice (some ⟨tb, 0, none⟩) j tc], .agg #[.int .i64 x0, .int .i64 x1], .int .i64 k]) (by simp [results, Tryd.results12, go_sem, m0, m1, m2, m3, o0, o1]) rfl ⟨((some ⟨tb, 0, none⟩), j, tc), rfl, (HFIN.out _ (chg_outD _ N _ _ _ _ _ _)).1, (HFIN.out _ (chg_outD _ N _ _ _ _ _ _)).2.mono (fun x z => Or.inl (by rw [z]; rfl))⟩
          · have hl0 : 0 ≤ l := by omega
            have hld : decide (0 ≤ l) = true := decide_eq_true (by omega)
            have h2z : (2 * (LI : Int)) ≤ (m : Int) := by omega
            have h2d : decide (2 * (LI : Int) ≤ (m : Int)) = true := decide_eq_true h2z
            have h2e : decide (2 * LI ≤ m) = true := decide_eq_true h2
            have CF := hidp (fun q => (HE.out.below (below_drewN (Below.refl wr.heap.size wr) q)).fill HOP.out HALL.out (Or.inl (by rw [HLA.out]; exact decide_eq_false (by omega))) HN.out)
            have HPF := hidp (pop_fill HPOP.out HOP.out ⟨by rw [HLI.out]; omega, Or.inl (by rw [HLA.out]; exact decide_eq_false (by omega))⟩)
            clear HE HOP HALL HPOP HLA HMB HSRC
            go_wp2_with fail
            go_quiet (fail)
            go_wp2_with fail
            refine (CF.out _).mono ?_
            rintro e w9 ⟨rfl, p9, sl9, sc9, k5, k6, k7, KB, KR, KI, KX, hfin⟩
            rw [← HPF.out] at hfin
            have HFIN := hidp hfin
            clear hfin CF HPF e0 e1 e2 e3 g2 g3 g4 g5 g6 g7 l4
            have k6z : ¬ ((sl9 : Int) = 0) := by omega
            have k6b : ((sl9 : Int) == 0) = false := beq_eq_false_iff_ne.2 k6z
            obtain ⟨e0, e1, e2, e3⟩ : _ ∧ _ ∧ _ ∧ _ := ⟨KB.cell (j := 0) rfl, KB.cell (j := 1) rfl, KB.cell (j := 2) rfl, KB.cell (j := 3) rfl⟩
            obtain ⟨m0, m1, m2, m3⟩ : _ ∧ _ ∧ _ ∧ _ := ⟨KR.cell (j := 0) rfl, KR.cell (j := 1) rfl, KR.cell (j := 2) rfl, KR.cell (j := 3) rfl⟩
            obtain ⟨mf0, mf1, mf2, mf3⟩ : _ ∧ _ ∧ _ ∧ _ := ⟨KR.fr 0, KR.fr 1, KR.fr 2, KR.fr 3⟩
            obtain ⟨o0, o1, of0, of1⟩ : _ ∧ _ ∧ _ ∧ _ := ⟨KI.cell (j := 0) rfl, KI.cell (j := 1) rfl, KI.fr 0, KI.fr 1⟩
            obtain ⟨t0, t1⟩ : _ ∧ _ := ⟨KX.cell (j := 0) rfl, KX.cell (j := 1) rfl⟩
            have lb0 := KB.lt
            have lb1 := KR.lt
            have lb2 := KI.lt
            have lb3 := KX.lt
            clear KB KR KI KX
            go_wp2_with fail
            go_region
            go_wp2
            exact bodyPost_ret (v := .tuple #[.agg #[.int .i64 rk, .int .i64 pu, .slice (some ⟨g, 0, none⟩) cn cc, .slice (some ⟨tb, 0, none⟩) j tc], .agg #[.int .i64 x0, .int .i64 x1], .int .i64 k]) (by simp [results, Tryd.results12, go_sem, m0, m1, m2, m3, o0, o1]) rfl ⟨((some ⟨tb, 0, none⟩), j, tc), rfl, (HFIN.out _ (chg_outD _ N _ _ _ _ _ _)).1, (HFIN.out _ (chg_outD _ N _ _ _ _ _ _)).2.mono (fun x z => Or.inl (by rw [z]; rfl))⟩
        · have h2z : ¬ ((2 * (LI : Int)) ≤ (m : Int)) := by omega
          have h2d : decide (2 * (LI : Int) ≤ (m : Int)) = false := decide_eq_false h2z
          have h2e : decide (2 * LI ≤ m) = false := decide_eq_false h2
          have HPF := hidp (pop_stay HPOP.out (fun z => (by have z1 := z.1; rw [HLI.out] at z1; omega)) (fun y => by have := HLI.out; rw [y] at this; simp at this; omega))
          have HFIN : Hid (∀ q W9, Chg (fun j => N ≤ j ∧ j < N + 3) (wr.drewN q) W9 → DocS W9 base F (some ⟨g, 0, none⟩, cn, cc) (some ⟨tb, 0, none⟩, j, tc) n (popS ts) ∧ Chg (fun j => j = g) w W9) := fun q W9 hc => by
            rw [HPF.out]
            exact (HE.out.below (below_drewN (Below.refl wr.heap.size wr) q)).stay HN.out W9 hc
          clear e0 e1 e2 e3 l4
          have KB := HE.out.box
          have KR := HE.out.res
          have KI := HE.out.rit
          have KX := HE.out.itm
          obtain ⟨e0, e1, e2, e3⟩ : _ ∧ _ ∧ _ ∧ _ := ⟨KB.cell (j := 0) rfl, KB.cell (j := 1) rfl, KB.cell (j := 2) rfl, KB.cell (j := 3) rfl⟩
          obtain ⟨m0, m1, m2, m3⟩ : _ ∧ _ ∧ _ ∧ _ := ⟨KR.cell (j := 0) rfl, KR.cell (j := 1) rfl, KR.cell (j := 2) rfl, KR.cell (j := 3) rfl⟩
          obtain ⟨mf0, mf1, mf2, mf3⟩ : _ ∧ _ ∧ _ ∧ _ := ⟨KR.fr 0, KR.fr 1, KR.fr 2, KR.fr 3⟩
          obtain ⟨o0, o1, of0, of1⟩ : _ ∧ _ ∧ _ ∧ _ := ⟨KI.cell (j := 0) rfl, KI.cell (j := 1) rfl, KI.fr 0, KI.fr 1⟩
          obtain ⟨t0, t1⟩ : _ ∧ _ := ⟨KX.cell (j := 0) rfl, KX.cell (j := 1) rfl⟩
          have lb0 := KB.lt
          have lb1 := KR.lt
          have lb2 := KI.lt
          have lb3 := KX.lt
          clear KB KR KI KX
          have k6z : ¬ ((LI : Int) = 0) := by omega
          have k6b : ((LI : Int) == 0) = false := beq_eq_false_iff_ne.2 k6z
          clear HE HOP HALL HPOP HLA HMB HSRC HPF
          go_wp2_with fail
          go_quiet (fail)
          go_wp2_with fail
          go_region
          go_wp2
          exact bodyPost_ret (v := .tuple #[.agg #[.int .i64 rk, .int .i64 pu, .slice (some ⟨g, 0, none⟩) cn cc, .slice (some ⟨tb, 0, none⟩) j tc], .agg #[.int .i64 x0, .int .i64 x1], .int .i64 k]) (by simp [results, Tryd.results12, go_sem, m0, m1, m2, m3, o0, o1]) rfl ⟨((some ⟨tb, 0, none⟩), j, tc), rfl, ((HFIN.out _) _ (chg_out _ N _ _ _ _ _ _)).1, ((HFIN.out _) _ (chg_out _ N _ _ _ _ _ _)).2.mono (fun x z => Or.inl (by rw [z]; rfl))⟩
      · obtain rfl : sc = 1 := by omega
        obtain rfl : LI = 0 := by omega
        go_wp2_with fail
        go_region
        have HE : Hid (PopE w base F N n ts g cn cc tb j tc i A k r m l mm is a b (some ⟨blk, off, none⟩) 0 0 is0 rk pu x0 x1 wq.heap.size ((wq.setCell ⟨g, i * 6 + 5, none⟩ (.slice (some ⟨blk, off, none⟩) 0 0)).alloc (.cells #[.int .i64 x0, .int .i64 x1] 30)).drew) := by
          have hbx : Below W3.heap.size W3 (wq.alloc (.cells #[.int .i64 x0, .int .i64 x1] 30)).drew := (HBQ.out.alloc HBQ.out.size _).drew
          have := HCUT.out _ wq.heap.size (some ⟨blk, off, none⟩) 0 0 hbx ((BlkAt.new wq _ _).below ((Below.refl _ _).drew)) (by rw [HSZ.out]; omega) (Or.inr (List.eq_nil_of_length_eq_zero HLI.out)) HLI.out.symm (by rw [HLI.out]; omega)
          rw [World.setCell_drew, World.setCell_alloc_past _ _ _ _ l2] at this
          exact this
        have hMz : wq.heap.size = N + 3 := HSZ.out
        clear HCUT c1q c2q c3q c4q c5q f5q e2q e3q l1 l2 l3 l4 HBQ HBX
        rw [hMz] at HE ⊢
        clear hMz HSZ
        generalize ((wq.setCell _ _).alloc _).drew = wr at HE ⊢
        obtain ⟨-, g2, -, g3, g4, g5, g6, g7⟩ := HE.out.words
        obtain ⟨e0, e1, e2, e3⟩ : _ ∧ _ ∧ _ ∧ _ := ⟨HE.out.box.cell (j := 0) rfl, HE.out.box.cell (j := 1) rfl, HE.out.box.cell (j := 2) rfl, HE.out.box.cell (j := 3) rfl⟩
        have l4 := HE.out.box.lt
        have hLIb : 0 ≤ 1000 := by have h1 := HALL.out; have h2 := HLI.out; simp only [List.length_append] at h1; omega
        by_cases hl : l < 0
        · by_cases hm : mm < 0
          · have hln : ¬ (0 ≤ l) := by omega
            have hld : decide (0 ≤ l) = false := decide_eq_false (by omega)
            have hmn : ¬ (0 ≤ mm) := by omega
            have hmd : decide (0 ≤ mm) = false := decide_eq_false (by omega)
            have h2z : (0 : Int) ≤ (m : Int) := by omega
            obtain ⟨hpg, ha0, hb0⟩ := pop_gone HPOP.out (fun z => (z.2.elim (fun y => by rw [HLA.out, decide_eq_true (by omega)] at y; cases y) (fun y => by rw [HMB.out, decide_eq_true (by omega)] at y; cases y))) (List.eq_nil_of_length_eq_zero HLI.out)
            have HPF := hidp hpg
            have his0 : is = [] := (List.eq_nil_of_length_eq_zero HLI.out)
            subst ha0 hb0 his0
            have HGO := hidp (fun (W : World) p7 l7 c7 (hb : Below wr.heap.size wr W) (ho : OwnE ET W wr.heap.size (.slice p7 l7 c7) (is0.eraseIdx A)) => HE.out.go (p7 := p7) (l7 := l7) (c7 := c7) HN.out hb ho)
            have HBX2 := hidp HE.out.box
            have HRES := hidp HE.out.res
            have HRIT := hidp HE.out.rit
            have HITM := hidp HE.out.itm
            have STK := hidp (src_take (k := A) HE.out.num.2.2)
            have SDR := hidp (src_of (k := A + 1) HE.out.num.2.2)
            have HTK : Hid ((is0.take A).length = A) := by show _ = _; rw [List.length_take, HL0.out]; omega
            have HDR : Hid ((is0.drop (A + 1)).length = j - (A + 1)) := by show _ = _; rw [List.length_drop, HL0.out]
            have HER : Hid (is0.eraseIdx A = is0.take A ++ is0.drop (A + 1)) := List.eraseIdx_eq_take_drop_succ _ _
            have hAc : (A : Int) ≤ (tc : Int) := by omega
            have hAc2 : (A : Int) + 1 ≤ (j : Int) := by omega
            have hAc3 : (A : Int) + 1 ≤ (tc : Int) := by omega
            have hjtc : (j : Int) ≤ (tc : Int) := by omega
            clear hpg HE HPOP HOP HALL HSRC HLA HMB
            rcases Nat.lt_or_ge (A + 1) tc with hq | hq
            · have hqz : (A : Int) + 1 < (tc : Int) := by omega
              go_wp2_with fail
              go_quiet (fail)
              go_wp2_with (first | (at_builtin; refine wpList_appendX ET rfl (.tmp 116) (.tmp 120) rfl wr.heap.size (.slice none 0 0) [] (is0.take A) ⟨tb, 0, none⟩ _ _ rfl (OwnE.nil ET _ _) rfl HTK.out (STK.out _ (below_drewN (Below.refl _ wr) _)) (by simp only [List.length_nil]; omega) (by simp) ?_; intro v6 w6 ho6 hg6; have hB6 : Below wr.heap.size wr w6 := (below_drewN (Below.refl _ wr) _).trans ((grown_nil hg6).mono (by simp)); clear hg6; have k2 := (HBX2.out.below hB6).cell (j := 2) rfl; have k3 := (HBX2.out.below hB6).cell (j := 3) rfl; have kl := (HBX2.out.below hB6).lt; clear e0 e1 e2 e3 l4 g2 g3 g4 g5 g6 g7) | (at_builtin; refine wpList_appendX ET rfl (.tmp 122) (.tmp 127) rfl wr.heap.size v6 ([] ++ is0.take A) (is0.drop (A + 1)) ⟨tb, A + 1, none⟩ _ _ rfl ho6 rfl HDR.out (SDR.out.2 _ hB6) (by rw [List.length_append, HTK.out]; simp only [List.length_nil]; omega) hB6.size ?_; intro v7 w7 ho7 hg7; have hB7 : Below wr.heap.size wr w7 := hB6.trans (below_ownE ho6 hg7 (Nat.le_refl _) hB6.size); clear hg7 ho6 k2 k3 kl; have KB := HBX2.out.below hB7; have KR := HRES.out.below hB7; have KI := HRIT.out.below hB7; have KX := HITM.out.below hB7; have kf3 := KB.fr 3; have l3 := KB.cell (j := 3) rfl; have lk := KB.lt; obtain ⟨p7, l7, c7, rfl, ho7⟩ := num_form ho7))
              obtain ⟨e0, e1, e2, e3⟩ : _ ∧ _ ∧ _ ∧ _ := ⟨KB.cell (j := 0) rfl, KB.cell (j := 1) rfl, KB.cell (j := 2) rfl, KB.cell (j := 3) rfl⟩
              obtain ⟨m0, m1, m2, m3⟩ : _ ∧ _ ∧ _ ∧ _ := ⟨KR.cell (j := 0) rfl, KR.cell (j := 1) rfl, KR.cell (j := 2) rfl, KR.cell (j := 3) rfl⟩
              obtain ⟨mf0, mf1, mf2, mf3⟩ : _ ∧ _ ∧ _ ∧ _ := ⟨KR.fr 0, KR.fr 1, KR.fr 2, KR.fr 3⟩
              obtain ⟨o0, o1, of0, of1⟩ : _ ∧ _ ∧ _ ∧ _ := ⟨KI.cell (j := 0) rfl, KI.cell (j := 1) rfl, KI.fr 0, KI.fr 1⟩
              obtain ⟨t0, t1⟩ : _ ∧ _ := ⟨KX.cell (j := 0) rfl, KX.cell (j := 1) rfl⟩
              have lb0 := KB.lt
              have lb1 := KR.lt
              have lb2 := KI.lt
              have lb3 := KX.lt
              clear KB KR KI KX
              have hfin := HGO.out w7 p7 l7 c7 hB7 (by rw [HER.out]; simpa using ho7)
              rw [← HPF.out] at hfin
              have HFIN := hidp hfin
              clear hfin
              go_wp2_with fail
              go_region
              go_wp2
              exact bodyPost_ret (v := .tuple #[.agg #[.int .i64 rk, .int .i64 pu, .slice (some ⟨g, 0, none⟩) cn cc, .slice p7 l7 c7], .agg #[.int .i64 x0, .int .i64 x1], .int .i64 k]) (by simp [results, Tryd.results12, go_sem, m0, m1, m2, m3, o0, o1]) rfl ⟨(p7, l7, c7), rfl, (HFIN.out _ (chg_outT _ N _ _ _ _ _ _ _)).1, (HFIN.out _ (chg_outT _ N _ _ _ _ _ _ _)).2.mono (fun x z => Or.inl (by rw [z]; rfl))⟩
            · obtain rfl : tc = A + 1 := by omega
              obtain rfl : j = A + 1 := by omega
              go_wp2_with fail
              go_quiet (fail)
              go_wp2_with (first | (at_builtin; refine wpList_appendX ET rfl (.tmp 116) (.tmp 120) rfl wr.heap.size (.slice none 0 0) [] (is0.take A) ⟨tb, 0, none⟩ _ _ rfl (OwnE.nil ET _ _) rfl HTK.out (STK.out _ (below_drewN (Below.refl _ wr) _)) (by simp only [List.length_nil]; omega) (by simp) ?_; intro v6 w6 ho6 hg6; have hB6 : Below wr.heap.size wr w6 := (below_drewN (Below.refl _ wr) _).trans ((grown_nil hg6).mono (by simp)); clear hg6; have k2 := (HBX2.out.below hB6).cell (j := 2) rfl; have k3 := (HBX2.out.below hB6).cell (j := 3) rfl; have kl := (HBX2.out.below hB6).lt; clear e0 e1 e2 e3 l4 g2 g3 g4 g5 g6 g7) | (at_builtin; refine wpList_appendX ET rfl (.tmp 122) (.tmp 127) rfl wr.heap.size v6 ([] ++ is0.take A) [] _ _ _ rfl ho6 rfl rfl src_nil (by rw [List.length_append, HTK.out]; simp only [List.length_nil]; omega) hB6.size ?_; intro v7 w7 ho7 hg7; have hB7 : Below wr.heap.size wr w7 := hB6.trans (below_ownE ho6 hg7 (Nat.le_refl _) hB6.size); clear hg7 ho6 k2 k3 kl; have KB := HBX2.out.below hB7; have KR := HRES.out.below hB7; have KI := HRIT.out.below hB7; have KX := HITM.out.below hB7; have kf3 := KB.fr 3; have l3 := KB.cell (j := 3) rfl; have lk := KB.lt; obtain ⟨p7, l7, c7, rfl, ho7⟩ := num_form ho7))
              obtain ⟨e0, e1, e2, e3⟩ : _ ∧ _ ∧ _ ∧ _ := ⟨KB.cell (j := 0) rfl, KB.cell (j := 1) rfl, KB.cell (j := 2) rfl, KB.cell (j := 3) rfl⟩
              obtain ⟨m0, m1, m2, m3⟩ : _ ∧ _ ∧ _ ∧ _ := ⟨KR.cell (j := 0) rfl, KR.cell (j := 1) rfl, KR.cell (j := 2) rfl, KR.cell (j := 3) rfl⟩
              obtain ⟨mf0, mf1, mf2, mf3⟩ : _ ∧ _ ∧ _ ∧ _ := ⟨KR.fr 0, KR.fr 1, KR.fr 2, KR.fr 3⟩
              obtain ⟨o0, o1, of0, of1⟩ : _ ∧ _ ∧ _ ∧ _ := ⟨KI.cell (j := 0) rfl, KI.cell (j := 1) rfl, KI.fr 0, KI.fr 1⟩
              obtain ⟨t0, t1⟩ : _ ∧ _ := ⟨KX.cell (j := 0) rfl, KX.cell (j := 1) rfl⟩
              have lb0 := KB.lt
              have lb1 := KR.lt
              have lb2 := KI.lt
              have lb3 := KX.lt
              clear KB KR KI KX
              have hdr0 : is0.drop (A + 1) = [] := List.drop_eq_nil_of_le (by rw [HL0.out]; omega)
              have hfin := HGO.out w7 p7 l7 c7 hB7 (by rw [HER.out, hdr0]; simpa using ho7)
              rw [← HPF.out] at hfin
              have HFIN := hidp hfin
              clear hfin hdr0
              go_wp2_with fail
              go_region
              go_wp2
              exact bodyPost_ret (v := .tuple #[.agg #[.int .i64 rk, .int .i64 pu, .slice (some ⟨g, 0, none⟩) cn cc, .slice p7 l7 c7], .agg #[.int .i64 x0, .int .i64 x1], .int .i64 k]) (by simp [results, Tryd.results12, go_sem, m0, m1, m2, m3, o0, o1]) rfl ⟨(p7, l7, c7), rfl, (HFIN.out _ (chg_outT _ N _ _ _ _ _ _ _)).1, (HFIN.out _ (chg_outT _ N _ _ _ _ _ _ _)).2.mono (fun x z => Or.inl (by rw [z]; rfl))⟩
          · have hln : ¬ (0 ≤ l) := by omega
            have hld : decide (0 ≤ l) = false := decide_eq_false (by omega)
            have hm0 : 0 ≤ mm := by omega
            have hmd : decide (0 ≤ mm) = true := decide_eq_true (by omega)
            have h2z : (0 : Int) ≤ (m : Int) := by omega
            have CF := hidp (fun q => (HE.out.below (below_drewN (Below.refl wr.heap.size wr) q)).fill HOP.out HALL.out (Or.inr (by rw [HMB.out]; exact decide_eq_false (by omega))) HN.out)
            have HPF := hidp (pop_fill HPOP.out HOP.out ⟨by rw [HLI.out]; omega, Or.inr (by rw [HMB.out]; exact decide_eq_false (by omega))⟩)
            clear HE HOP HALL HPOP HLA HMB HSRC
            go_wp2_with fail
            go_quiet (fail)
            go_wp2_with fail
            refine (CF.out _).mono ?_
            rintro e w9 ⟨rfl, p9, sl9, sc9, k5, k6, k7, KB, KR, KI, KX, hfin⟩
            rw [← HPF.out] at hfin
            have HFIN := hidp hfin
            clear hfin CF HPF e0 e1 e2 e3 g2 g3 g4 g5 g6 g7 l4
            have k6z : ¬ ((sl9 : Int) = 0) := by omega
            have k6b : ((sl9 : Int) == 0) = false := beq_eq_false_iff_ne.2 k6z
            obtain ⟨e0, e1, e2, e3⟩ : _ ∧ _ ∧ _ ∧ _ := ⟨KB.cell (j := 0) rfl, KB.cell (j := 1) rfl, KB.cell (j := 2) rfl, KB.cell (j := 3) rfl⟩
            obtain ⟨m0, m1, m2, m3⟩ : _ ∧ _ ∧ _ ∧ _ := ⟨KR.cell (j := 0) rfl, KR.cell (j := 1) rfl, KR.cell (j := 2) rfl, KR.cell (j := 3) rfl⟩
            obtain ⟨mf0, mf1, mf2, mf3⟩ : _ ∧ _ ∧ _ ∧ _ := ⟨KR.fr 0, KR.fr 1, KR.fr 2, KR.fr 3⟩
            obtain ⟨o0, o1, of0, of1⟩ : _ ∧ _ ∧ _ ∧ _ := ⟨KI.cell (j := 0) rfl, KI.cell (j := 1) rfl, KI.fr 0, KI.fr 1⟩
            obtain ⟨t0, t1⟩ : _ ∧ _ := ⟨KX.cell (j := 0) rfl, KX.cell (j := 1) rfl⟩
            have lb0 := KB.lt
            have lb1 := KR.lt
            have lb2 := KI.lt
            have lb3 := KX.lt
            clear KB KR KI KX
            go_wp2_with fail
            go_region
            go_wp2
            exact bodyPost_ret (v := .tuple #[.agg #[.int .i64 rk, .int .i64 pu, .slice (some ⟨g, 0, none⟩) cn cc, .slice (some ⟨tb, 0, none⟩) j tc], .agg #[.int .i64 x0, .int .i64 x1], .int .i64 k]) (by simp [results, Tryd.results12, go_sem, m0, m1, m2, m3, o0, o1]) rfl ⟨((some ⟨tb, 0, none⟩), j, tc), rfl, (HFIN.out _ (chg_outD _ N _ _ _ _ _ _)).1, (HFIN.out _ (chg_outD _ N _ _ _ _ _ _)).2.mono (fun x z => Or.inl (by rw [z]; rfl))⟩
        · have hl0 : 0 ≤ l := by omega
          have hld : decide (0 ≤ l) = true := decide_eq_true (by omega)
          have h2z : (0 : Int) ≤ (m : Int) := by omega
          have CF := hidp (fun q => (HE.out.below (below_drewN (Below.refl wr.heap.size wr) q)).fill HOP.out HALL.out (Or.inl (by rw [HLA.out]; exact decide_eq_false (by omega))) HN.out)
          have HPF := hidp (pop_fill HPOP.out HOP.out ⟨by rw [HLI.out]; omega, Or.inl (by rw [HLA.out]; exact decide_eq_false (by omega))⟩)
          clear HE HOP HALL HPOP HLA HMB HSRC
          go_wp2_with fail
          go_quiet (fail)
          go_wp2_with fail
          refine (CF.out _).mono ?_
          rintro e w9 ⟨rfl, p9, sl9, sc9, k5, k6, k7, KB, KR, KI, KX, hfin⟩
          rw [← HPF.out] at hfin
          have HFIN := hidp hfin
          clear hfin CF HPF e0 e1 e2 e3 g2 g3 g4 g5 g6 g7 l4
          have k6z : ¬ ((sl9 : Int) = 0) := by omega
          have k6b : ((sl9 : Int) == 0) = false := beq_eq_false_iff_ne.2 k6z
          obtain ⟨e0, e1, e2, e3⟩ : _ ∧ _ ∧ _ ∧ _ := ⟨KB.cell (j := 0) rfl, KB.cell (j := 1) rfl, KB.cell (j := 2) rfl, KB.cell (j := 3) rfl⟩
          obtain ⟨m0, m1, m2, m3⟩ : _ ∧ _ ∧ _ ∧ _ := ⟨KR.cell (j := 0) rfl, KR.cell (j := 1) rfl, KR.cell (j := 2) rfl, KR.cell (j := 3) rfl⟩
          obtain ⟨mf0, mf1, mf2, mf3⟩ : _ ∧ _ ∧ _ ∧ _ := ⟨KR.fr 0, KR.fr 1, KR.fr 2, KR.fr 3⟩
          obtain ⟨o0, o1, of0, of1⟩ : _ ∧ _ ∧ _ ∧ _ := ⟨KI.cell (j := 0) rfl, KI.cell (j := 1) rfl, KI.fr 0, KI.fr 1⟩
          obtain ⟨t0, t1⟩ : _ ∧ _ := ⟨KX.cell (j := 0) rfl, KX.cell (j := 1) rfl⟩
          have lb0 := KB.lt
          have lb1 := KR.lt
          have lb2 := KI.lt
          have lb3 := KX.lt
          clear KB KR KI KX
          go_wp2_with fail
          go_region
          go_wp2
          exact bodyPost_ret (v := .tuple #[.agg #[.int .i64 rk, .int .i64 pu, .slice (some ⟨g, 0, none⟩) cn cc, .slice (some ⟨tb, 0, none⟩) j tc], .agg #[.int .i64 x0, .int .i64 x1], .int .i64 k]) (by simp [results, Tryd.results12, go_sem, m0, m1, m2, m3, o0, o1]) rfl ⟨((some ⟨tb, 0, none⟩), j, tc), rfl, (HFIN.out _ (chg_outD _ N _ _ _ _ _ _)).1, (HFIN.out _ (chg_outD _ N _ _ _ _ _ _)).2.mono (fun x z => Or.inl (by rw [z]; rfl))⟩
end Go.Proofs.YtdpfijhkbhmkgaaDoor
