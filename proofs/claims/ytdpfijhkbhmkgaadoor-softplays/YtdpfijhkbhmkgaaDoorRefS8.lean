/-
  The document's SoftPush, walked. (Written by wip/gen/refpush.py.)
-/
import Derived.Test.YtdpfijhkbhmkgaaDoorRefS7
import Derived.Test.YtdpfijhkbhmkgaaDoorHide
namespace Go.Proofs.YtdpfijhkbhmkgaaDoor
open Go.RowKit Go.Sort Go.Proofs

theorem gb_refl (w : World) (row : Option Nat) : w.grownBy w row := ⟨rfl, rfl, rfl, Nat.le_refl _, fun _ _ _ => rfl⟩
set_option maxHeartbeats 16000000 in
set_option maxRecDepth 4000 in
theorem softPush_none {w : World} {base r0 n : Nat} {F : Nat → Prop} {cp : Option Addr} {cn cc tn tc : Nat} {ts : List SN} {x0 x1 : Int} (hD : DocS w base F (cp, cn, cc) (none, tn, tc) n ts) (hG : GoodS r0 n ts) (hm : (allS ts).length ≤ n) (hn : n < 400) (hbase : base ≤ w.heap.size) :
    Calls Tryd.prog 14 #[.agg #[.int .i64 (r0 : Int), .int .i64 (n : Int), .slice cp cn cc, .slice none tn tc], .agg #[.int .i64 x0, .int .i64 x1]] w fun e w' => ∃ c t : SlW, e = .returned (.agg #[.int .i64 (r0 : Int), .int .i64 ((n : Int) + 1), .slice c.1 c.2.1 c.2.2, .slice t.1 t.2.1 t.2.2]) ∧ DocS w' base F c t (n + 1) (pushS r0 (x0, x1) ts) ∧ Chg (fun j => (Value.slice cp cn cc).ownBlock = some j) w w' := by
  have BEG := hidp (push_begin (x0 := x0) (x1 := x1) hD hG hm hn hbase rfl rfl)
  obtain ⟨T, hT⟩ : ∃ T, pushS r0 (x0, x1) ts = T := ⟨_, rfl⟩
  rw [hT] at BEG ⊢
  obtain ⟨L, hL⟩ : ∃ L, ts.length = L := ⟨_, rfl⟩
  rw [hL] at BEG
  have hcnz : cn ≤ 800 := by
    obtain ⟨Q, is, f, h1, _, _, h4⟩ := hD
    obtain ⟨_, _, e⟩ := h1.own.form
    simp only [Value.slice.injEq] at e
    omega
  clear hD hG hm hT hL
  go_enter Tryd.func14, Tryd.ntmps14
  go_wp2_with (at_builtin; obtain ⟨Q, q1, q2, q3, q4, q5⟩ := BEG.out; refine wpList_appendE EC rfl (.tmp 15) (.tmp 21) rfl base (.slice cp cn cc) Q (leafC x0 x1 w.heap.size) ⟨w.heap.size + 1 + 1 + 1 + 1, 0, none⟩ 1 rfl q1 rfl q4 q2 q3 ?_; intro v' wa ho hg hbk; obtain ⟨g, ccn, rfl, b2, f2, hP⟩ := q5 v' wa ho hg hbk; clear q1 q2 q3 q4 q5 ho hg hbk; have HP := hidp hP; clear hP)
  clear BEG
  generalize hNN : w.heap.size = N at HP b2 f2 ⊢
  have HN := hidp hNN
  clear hNN
  go_wp2
  go_loopg [5, 7] L (fun gg va vk wr => ∃ a k g cn1 cc1 : Nat, va = .int .i64 a ∧ vk = .int .i64 k ∧ Hid (PushD w base F N r0 n T (Value.slice cp cn cc) (none, tn, tc) g cn1 cc1 a k gg wr))
  case atStart => exact ⟨cn, 0, g, cn + 1, ccn, by go_num, rfl, HP⟩
  case round =>
    clear HP b2 f2
    obtain ⟨a, k, g, cn1, cc1, rfl, rfl, HP⟩ := hrel
    obtain ⟨cr, v1, v2, v3, v4, v5, v6, hv⟩ := HP.out.view
    simp only at v3 v4 v5 hv
    have e0 := HP.out.box.cell (j := 0) rfl
    have e1 := HP.out.box.cell (j := 1) rfl
    have e2 := HP.out.box.cell (j := 2) rfl
    have e3 := HP.out.box.cell (j := 3) rfl
    have fr2 := HP.out.box.fr 2
    have fr3 := HP.out.box.fr 3
    have hbl := HP.out.box.lt
    have hrl := HP.out.res.lt
    change _ = some (Value.slice none tn tc) at e3
    have ha : a < cn1 := by have := HP.out.last; omega
    have haz : (a : Int) < (cn1 : Int) := by omega
    rcases hv with ⟨hk, hE⟩ | ⟨hk, tb', i, tr, mt, hb', c1, c2, c3, c4, c5, ⟨hne, hE⟩ | ⟨hrr, hmt, hm1, hm2, hX⟩⟩
    · have hkz : ¬ (k : Int) < (tn : Int) := by omega
      have hkn : decide (k < tn) = false := decide_eq_false (by omega)
      have hkd : decide ((k : Int) < (tn : Int)) = false := decide_eq_false hkz
      have HE := hidp hE
      clear hE
      obtain ⟨Q, is0, f, h1, h2, h3, h4, h5⟩ := HE.out.ex
      have HFIN := hidp (fun (W : World) p7 l7 c7 (hb : Below wr.heap.size wr W) (ho : OwnE ET W wr.heap.size (.slice p7 l7 c7) (a :: is0.drop k)) => push_fin (p7 := p7) (l7 := l7) (c7 := c7) h1 h2 h5 HE.out.chg HN.out hb ho)
      obtain ⟨hnl, hcl, hsrc⟩ := h3
      simp only at hnl hcl
      have HB0 := hidp HE.out.box
      have HB2 := hidp HE.out.res
      have hdr : is0.drop k = [] := List.drop_eq_nil_of_le (by omega)
      rw [hdr] at HFIN
      have htn0 : tn = 0 := by
        rcases hsrc with ⟨_, e⟩ | ⟨_, e, _⟩
        · rw [hnl, e]; rfl
        · cases e
      clear h1 h2 h4 h5 hnl hcl hsrc HE HP v1 v2 hdr
      subst htn0
      obtain rfl : k = 0 := by omega
      go_wp2_with fail
      go_quiet (fail)
      go_wp2_with (first | (at_builtin; refine wpList_appendE ET rfl (.tmp 104) (.tmp 106) rfl wr.heap.size (.slice none 0 0) [] a ⟨wr.heap.size, 0, none⟩ 1 rfl (OwnE.nil ET _ _) rfl (new_one _ a) (by simp) (by simp) ?_; intro v6 w6 ho6 hg6 _; have hb6 := grown_nil hg6; clear hg6; have hB6 : Below wr.heap.size wr w6 := ((below_drewN (Below.refl _ wr) _).alloc (by simp) _).trans (hb6.mono (by simp)); have k0 := (HB0.out.below hB6).cell (j := 0) rfl; have k1 := (HB0.out.below hB6).cell (j := 1) rfl; have k2 := (HB0.out.below hB6).cell (j := 2) rfl; have k3 := (HB0.out.below hB6).cell (j := 3) rfl; have kf3 := (HB0.out.below hB6).fr 3; have hbl6 := (HB0.out.below hB6).lt; clear hb6) | (at_builtin; refine wpList_append0 ET rfl (.tmp 108) (.tmp 112) rfl wr.heap.size v6 ([] ++ [a]) _ rfl ho6 rfl ?_; have hB7 := hB6; have ho7 := ho6; clear ho6; have l0 := (HB0.out.below hB7).cell (j := 0) rfl; have l1 := (HB0.out.below hB7).cell (j := 1) rfl; have l2 := (HB0.out.below hB7).cell (j := 2) rfl; have l3 := (HB0.out.below hB7).cell (j := 3) rfl; have lf3 := (HB0.out.below hB7).fr 3; have hbl7 := (HB0.out.below hB7).lt; have m0 := (HB2.out.below hB7).cell (j := 0) rfl; have m1 := (HB2.out.below hB7).cell (j := 1) rfl; have m2 := (HB2.out.below hB7).cell (j := 2) rfl; have m3 := (HB2.out.below hB7).cell (j := 3) rfl; have mf0 := (HB2.out.below hB7).fr 0; have mf1 := (HB2.out.below hB7).fr 1; have mf2 := (HB2.out.below hB7).fr 2; have mf3 := (HB2.out.below hB7).fr 3; have hbm7 := (HB2.out.below hB7).lt; clear k0 k1 k2 k3 kf3 hbl6; obtain ⟨p7, l7, c7, rfl, ho7⟩ := num_form ho7))
      go_wp2
      exact bodyPost_ret (v := .agg #[.int .i64 (r0 : Int), .int .i64 ((n : Int) + 1), .slice (some ⟨g, 0, none⟩) cn1 cc1, .slice p7 l7 c7]) (by simp [results, Tryd.results14, go_sem, m0, m1, m2, m3]) rfl ⟨(some ⟨g, 0, none⟩, cn1, cc1), (p7, l7, c7), rfl, HFIN.out _ _ _ _ hB7 ho7 _ (((((((Chg.refl _ w6).setCell (p := ⟨N, 3, none⟩) (Or.inl (Or.inl rfl)) _).setCell (p := ⟨N + 1 + 1, 0, none⟩) (Or.inl (Or.inr rfl)) _).setCell (p := ⟨N + 1 + 1, 1, none⟩) (Or.inl (Or.inr rfl)) _).setCell (p := ⟨N + 1 + 1, 2, none⟩) (Or.inl (Or.inr rfl)) _).setCell (p := ⟨N + 1 + 1, 3, none⟩) (Or.inl (Or.inr rfl)) _))⟩
    · cases hb'
    · cases hb'
set_option maxHeartbeats 16000000 in
set_option maxRecDepth 4000 in
theorem softPush_some {w : World} {base r0 n : Nat} {F : Nat → Prop} {cp : Option Addr} {tb cn cc tn tc : Nat} {ts : List SN} {x0 x1 : Int} (hD : DocS w base F (cp, cn, cc) (some ⟨tb, 0, none⟩, tn, tc) n ts) (hG : GoodS r0 n ts) (hm : (allS ts).length ≤ n) (hn : n < 400) (hbase : base ≤ w.heap.size) :
    Calls Tryd.prog 14 #[.agg #[.int .i64 (r0 : Int), .int .i64 (n : Int), .slice cp cn cc, .slice (some ⟨tb, 0, none⟩) tn tc], .agg #[.int .i64 x0, .int .i64 x1]] w fun e w' => ∃ c t : SlW, e = .returned (.agg #[.int .i64 (r0 : Int), .int .i64 ((n : Int) + 1), .slice c.1 c.2.1 c.2.2, .slice t.1 t.2.1 t.2.2]) ∧ DocS w' base F c t (n + 1) (pushS r0 (x0, x1) ts) ∧ Chg (fun j => (Value.slice cp cn cc).ownBlock = some j) w w' := by
  have BEG := hidp (push_begin (x0 := x0) (x1 := x1) hD hG hm hn hbase rfl rfl)
  obtain ⟨T, hT⟩ : ∃ T, pushS r0 (x0, x1) ts = T := ⟨_, rfl⟩
  rw [hT] at BEG ⊢
  obtain ⟨L, hL⟩ : ∃ L, ts.length = L := ⟨_, rfl⟩
  rw [hL] at BEG
  have hcnz : cn ≤ 800 := by
    obtain ⟨Q, is, f, h1, _, _, h4⟩ := hD
    obtain ⟨_, _, e⟩ := h1.own.form
    simp only [Value.slice.injEq] at e
    omega
  clear hD hG hm hT hL
  go_enter Tryd.func14, Tryd.ntmps14
  go_wp2_with (at_builtin; obtain ⟨Q, q1, q2, q3, q4, q5⟩ := BEG.out; refine wpList_appendE EC rfl (.tmp 15) (.tmp 21) rfl base (.slice cp cn cc) Q (leafC x0 x1 w.heap.size) ⟨w.heap.size + 1 + 1 + 1 + 1, 0, none⟩ 1 rfl q1 rfl q4 q2 q3 ?_; intro v' wa ho hg hbk; obtain ⟨g, ccn, rfl, b2, f2, hP⟩ := q5 v' wa ho hg hbk; clear q1 q2 q3 q4 q5 ho hg hbk; have HP := hidp hP; clear hP)
  clear BEG
  generalize hNN : w.heap.size = N at HP b2 f2 ⊢
  have HN := hidp hNN
  clear hNN
  go_wp2
  go_loopg [5, 7] L (fun gg va vk wr => ∃ a k g cn1 cc1 : Nat, va = .int .i64 a ∧ vk = .int .i64 k ∧ Hid (PushD w base F N r0 n T (Value.slice cp cn cc) (some ⟨tb, 0, none⟩, tn, tc) g cn1 cc1 a k gg wr))
  case atStart => exact ⟨cn, 0, g, cn + 1, ccn, by go_num, rfl, HP⟩
  case round =>
    clear HP b2 f2
    obtain ⟨a, k, g, cn1, cc1, rfl, rfl, HP⟩ := hrel
    obtain ⟨cr, v1, v2, v3, v4, v5, v6, hv⟩ := HP.out.view
    simp only at v3 v4 v5 hv
    have e0 := HP.out.box.cell (j := 0) rfl
    have e1 := HP.out.box.cell (j := 1) rfl
    have e2 := HP.out.box.cell (j := 2) rfl
    have e3 := HP.out.box.cell (j := 3) rfl
    have fr2 := HP.out.box.fr 2
    have fr3 := HP.out.box.fr 3
    have hbl := HP.out.box.lt
    have hrl := HP.out.res.lt
    change _ = some (Value.slice (some ⟨tb, 0, none⟩) tn tc) at e3
    have ha : a < cn1 := by have := HP.out.last; omega
    have haz : (a : Int) < (cn1 : Int) := by omega
    rcases hv with ⟨hk, hE⟩ | ⟨hk, tb', i, tr, mt, hb', c1, c2, c3, c4, c5, ⟨hne, hE⟩ | ⟨hrr, hmt, hm1, hm2, hX⟩⟩
    · have hkz : ¬ (k : Int) < (tn : Int) := by omega
      have hkn : decide (k < tn) = false := decide_eq_false (by omega)
      have hkd : decide ((k : Int) < (tn : Int)) = false := decide_eq_false hkz
      have HE := hidp hE
      clear hE
      obtain ⟨Q, is0, f, h1, h2, h3, h4, h5⟩ := HE.out.ex
      have HFIN := hidp (fun (W : World) p7 l7 c7 (hb : Below wr.heap.size wr W) (ho : OwnE ET W wr.heap.size (.slice p7 l7 c7) (a :: is0.drop k)) => push_fin (p7 := p7) (l7 := l7) (c7 := c7) h1 h2 h5 HE.out.chg HN.out hb ho)
      obtain ⟨hnl, hcl, hsrc⟩ := h3
      simp only at hnl hcl
      have HB0 := hidp HE.out.box
      have HB2 := hidp HE.out.res
      have hdr : is0.drop k = [] := List.drop_eq_nil_of_le (by omega)
      rw [hdr] at HFIN
      have htz : (tn : Int) ≤ (tc : Int) := by omega
      clear h1 h2 h4 h5 hnl hcl hsrc HE HP v1 v2 hdr
      obtain rfl : k = tn := by omega
      rcases Nat.lt_or_ge k tc with hkc | hkc
      · have hkcz : (k : Int) < (tc : Int) := by omega
        go_wp2_with fail
        go_quiet (fail)
        go_wp2_with (first | (at_builtin; refine wpList_appendE ET rfl (.tmp 104) (.tmp 106) rfl wr.heap.size (.slice none 0 0) [] a ⟨wr.heap.size, 0, none⟩ 1 rfl (OwnE.nil ET _ _) rfl (new_one _ a) (by simp) (by simp) ?_; intro v6 w6 ho6 hg6 _; have hb6 := grown_nil hg6; clear hg6; have hB6 : Below wr.heap.size wr w6 := ((below_drewN (Below.refl _ wr) _).alloc (by simp) _).trans (hb6.mono (by simp)); have k0 := (HB0.out.below hB6).cell (j := 0) rfl; have k1 := (HB0.out.below hB6).cell (j := 1) rfl; have k2 := (HB0.out.below hB6).cell (j := 2) rfl; have k3 := (HB0.out.below hB6).cell (j := 3) rfl; have kf3 := (HB0.out.below hB6).fr 3; have hbl6 := (HB0.out.below hB6).lt; clear hb6) | (at_builtin; refine wpList_appendX ET rfl (.tmp 108) (.tmp 112) rfl wr.heap.size v6 ([] ++ [a]) [] _ _ _ rfl ho6 rfl rfl src_nil (by simp) hB6.size ?_; intro v7 w7 ho7 hg7; have hB7 : Below wr.heap.size wr w7 := hB6.trans (below_ownE ho6 hg7 (Nat.le_refl _) hB6.size); clear hg7 ho6; have l0 := (HB0.out.below hB7).cell (j := 0) rfl; have l1 := (HB0.out.below hB7).cell (j := 1) rfl; have l2 := (HB0.out.below hB7).cell (j := 2) rfl; have l3 := (HB0.out.below hB7).cell (j := 3) rfl; have lf3 := (HB0.out.below hB7).fr 3; have hbl7 := (HB0.out.below hB7).lt; have m0 := (HB2.out.below hB7).cell (j := 0) rfl; have m1 := (HB2.out.below hB7).cell (j := 1) rfl; have m2 := (HB2.out.below hB7).cell (j := 2) rfl; have m3 := (HB2.out.below hB7).cell (j := 3) rfl; have mf0 := (HB2.out.below hB7).fr 0; have mf1 := (HB2.out.below hB7).fr 1; have mf2 := (HB2.out.below hB7).fr 2; have mf3 := (HB2.out.below hB7).fr 3; have hbm7 := (HB2.out.below hB7).lt; clear k0 k1 k2 k3 kf3 hbl6; obtain ⟨p7, l7, c7, rfl, ho7⟩ := num_form ho7))
        go_wp2
        exact bodyPost_ret (v := .agg #[.int .i64 (r0 : Int), .int .i64 ((n : Int) + 1), .slice (some ⟨g, 0, none⟩) cn1 cc1, .slice p7 l7 c7]) (by simp [results, Tryd.results14, go_sem, m0, m1, m2, m3]) rfl ⟨(some ⟨g, 0, none⟩, cn1, cc1), (p7, l7, c7), rfl, HFIN.out _ _ _ _ hB7 ho7 _ (((((((Chg.refl _ w7).setCell (p := ⟨N, 3, none⟩) (Or.inl (Or.inl rfl)) _).setCell (p := ⟨N + 1 + 1, 0, none⟩) (Or.inl (Or.inr rfl)) _).setCell (p := ⟨N + 1 + 1, 1, none⟩) (Or.inl (Or.inr rfl)) _).setCell (p := ⟨N + 1 + 1, 2, none⟩) (Or.inl (Or.inr rfl)) _).setCell (p := ⟨N + 1 + 1, 3, none⟩) (Or.inl (Or.inr rfl)) _))⟩
      · obtain rfl : tc = k := by omega
        go_wp2_with fail
        go_quiet (fail)
        go_wp2_with (first | (at_builtin; refine wpList_appendE ET rfl (.tmp 104) (.tmp 106) rfl wr.heap.size (.slice none 0 0) [] a ⟨wr.heap.size, 0, none⟩ 1 rfl (OwnE.nil ET _ _) rfl (new_one _ a) (by simp) (by simp) ?_; intro v6 w6 ho6 hg6 _; have hb6 := grown_nil hg6; clear hg6; have hB6 : Below wr.heap.size wr w6 := ((below_drewN (Below.refl _ wr) _).alloc (by simp) _).trans (hb6.mono (by simp)); have k0 := (HB0.out.below hB6).cell (j := 0) rfl; have k1 := (HB0.out.below hB6).cell (j := 1) rfl; have k2 := (HB0.out.below hB6).cell (j := 2) rfl; have k3 := (HB0.out.below hB6).cell (j := 3) rfl; have kf3 := (HB0.out.below hB6).fr 3; have hbl6 := (HB0.out.below hB6).lt; clear hb6) | (at_builtin; refine wpList_appendX ET rfl (.tmp 108) (.tmp 112) rfl wr.heap.size v6 ([] ++ [a]) [] _ _ _ rfl ho6 rfl rfl src_nil (by simp) hB6.size ?_; intro v7 w7 ho7 hg7; have hB7 : Below wr.heap.size wr w7 := hB6.trans (below_ownE ho6 hg7 (Nat.le_refl _) hB6.size); clear hg7 ho6; have l0 := (HB0.out.below hB7).cell (j := 0) rfl; have l1 := (HB0.out.below hB7).cell (j := 1) rfl; have l2 := (HB0.out.below hB7).cell (j := 2) rfl; have l3 := (HB0.out.below hB7).cell (j := 3) rfl; have lf3 := (HB0.out.below hB7).fr 3; have hbl7 := (HB0.out.below hB7).lt; have m0 := (HB2.out.below hB7).cell (j := 0) rfl; have m1 := (HB2.out.below hB7).cell (j := 1) rfl; have m2 := (HB2.out.below hB7).cell (j := 2) rfl; have m3 := (HB2.out.below hB7).cell (j := 3) rfl; have mf0 := (HB2.out.below hB7).fr 0; have mf1 := (HB2.out.below hB7).fr 1; have mf2 := (HB2.out.below hB7).fr 2; have mf3 := (HB2.out.below hB7).fr 3; have hbm7 := (HB2.out.below hB7).lt; clear k0 k1 k2 k3 kf3 hbl6; obtain ⟨p7, l7, c7, rfl, ho7⟩ := num_form ho7))
        go_wp2
        exact bodyPost_ret (v := .agg #[.int .i64 (r0 : Int), .int .i64 ((n : Int) + 1), .slice (some ⟨g, 0, none⟩) cn1 cc1, .slice p7 l7 c7]) (by simp [results, Tryd.results14, go_sem, m0, m1, m2, m3]) rfl ⟨(some ⟨g, 0, none⟩, cn1, cc1), (p7, l7, c7), rfl, HFIN.out _ _ _ _ hB7 ho7 _ (((((((Chg.refl _ w7).setCell (p := ⟨N, 3, none⟩) (Or.inl (Or.inl rfl)) _).setCell (p := ⟨N + 1 + 1, 0, none⟩) (Or.inl (Or.inr rfl)) _).setCell (p := ⟨N + 1 + 1, 1, none⟩) (Or.inl (Or.inr rfl)) _).setCell (p := ⟨N + 1 + 1, 2, none⟩) (Or.inl (Or.inr rfl)) _).setCell (p := ⟨N + 1 + 1, 3, none⟩) (Or.inl (Or.inr rfl)) _))⟩
    · simp only [Option.some.injEq, Addr.mk.injEq, and_true] at hb'
      subst hb'
      have hkz : (k : Int) < (tn : Int) := by omega
      have hkn : decide (k < tn) = true := decide_eq_true (by omega)
      have hkcz : (k : Int) < (tc : Int) := by omega
      have hiz : (i : Int) < (cn1 : Int) := by omega
      have hrn : ((tr : Int) == (cr : Int)) = false := beq_eq_false_iff_ne.2 (by omega)
      have NLZ : Hid (tn ≤ 2 * n + 2) := v3
      have HE := hidp hE
      clear hE
      obtain ⟨Q, is0, f, h1, h2, h3, h4, h5⟩ := HE.out.ex
      have HFIN := hidp (fun (W : World) p7 l7 c7 (hb : Below wr.heap.size wr W) (ho : OwnE ET W wr.heap.size (.slice p7 l7 c7) (a :: is0.drop k)) => push_fin (p7 := p7) (l7 := l7) (c7 := c7) h1 h2 h5 HE.out.chg HN.out hb ho)
      obtain ⟨hnl, hcl, hsrc⟩ := h3
      simp only at hnl hcl
      have HB0 := hidp HE.out.box
      have HB2 := hidp HE.out.res
      have SRC := hidp (src_of (k := k) hsrc)
      have HLEN : Hid ((is0.drop k).length = tn - k) := by show _ = _; rw [List.length_drop, hnl]
      have htz : (tn : Int) ≤ (tc : Int) := by omega
      have hkt : (k : Int) ≤ (tn : Int) := by omega
      clear h1 h2 h4 h5 hnl hcl hsrc HE HP hne
      go_wp2_with fail
      go_quiet (fail)
      go_wp2_with (first | (at_builtin; refine wpList_appendE ET rfl (.tmp 104) (.tmp 106) rfl wr.heap.size (.slice none 0 0) [] a ⟨wr.heap.size, 0, none⟩ 1 rfl (OwnE.nil ET _ _) rfl (new_one _ a) (by simp) (by simp) ?_; intro v6 w6 ho6 hg6 _; have hb6 := grown_nil hg6; clear hg6; have hB6 : Below wr.heap.size wr w6 := ((below_drewN (Below.refl _ wr) _).alloc (by simp) _).trans (hb6.mono (by simp)); have k0 := (HB0.out.below hB6).cell (j := 0) rfl; have k1 := (HB0.out.below hB6).cell (j := 1) rfl; have k2 := (HB0.out.below hB6).cell (j := 2) rfl; have k3 := (HB0.out.below hB6).cell (j := 3) rfl; have kf3 := (HB0.out.below hB6).fr 3; have hbl6 := (HB0.out.below hB6).lt; clear hb6) | (at_builtin; refine wpList_appendX ET rfl (.tmp 108) (.tmp 112) rfl wr.heap.size v6 ([] ++ [a]) (is0.drop k) ⟨tb, k, none⟩ _ _ rfl ho6 rfl HLEN.out (SRC.out.2 _ hB6) (by simp only [List.nil_append, List.length_singleton]; have := NLZ.out; omega) hB6.size ?_; intro v7 w7 ho7 hg7; have hB7 : Below wr.heap.size wr w7 := hB6.trans (below_ownE ho6 hg7 (Nat.le_refl _) hB6.size); clear hg7 ho6; have l0 := (HB0.out.below hB7).cell (j := 0) rfl; have l1 := (HB0.out.below hB7).cell (j := 1) rfl; have l2 := (HB0.out.below hB7).cell (j := 2) rfl; have l3 := (HB0.out.below hB7).cell (j := 3) rfl; have lf3 := (HB0.out.below hB7).fr 3; have hbl7 := (HB0.out.below hB7).lt; have m0 := (HB2.out.below hB7).cell (j := 0) rfl; have m1 := (HB2.out.below hB7).cell (j := 1) rfl; have m2 := (HB2.out.below hB7).cell (j := 2) rfl; have m3 := (HB2.out.below hB7).cell (j := 3) rfl; have mf0 := (HB2.out.below hB7).fr 0; have mf1 := (HB2.out.below hB7).fr 1; have mf2 := (HB2.out.below hB7).fr 2; have mf3 := (HB2.out.below hB7).fr 3; have hbm7 := (HB2.out.below hB7).lt; clear k0 k1 k2 k3 kf3 hbl6; obtain ⟨p7, l7, c7, rfl, ho7⟩ := num_form ho7))
      go_wp2
      exact bodyPost_ret (v := .agg #[.int .i64 (r0 : Int), .int .i64 ((n : Int) + 1), .slice (some ⟨g, 0, none⟩) cn1 cc1, .slice p7 l7 c7]) (by simp [results, Tryd.results14, go_sem, m0, m1, m2, m3]) rfl ⟨(some ⟨g, 0, none⟩, cn1, cc1), (p7, l7, c7), rfl, HFIN.out _ _ _ _ hB7 ho7 _ (((((((Chg.refl _ w7).setCell (p := ⟨N, 3, none⟩) (Or.inl (Or.inl rfl)) _).setCell (p := ⟨N + 1 + 1, 0, none⟩) (Or.inl (Or.inr rfl)) _).setCell (p := ⟨N + 1 + 1, 1, none⟩) (Or.inl (Or.inr rfl)) _).setCell (p := ⟨N + 1 + 1, 2, none⟩) (Or.inl (Or.inr rfl)) _).setCell (p := ⟨N + 1 + 1, 3, none⟩) (Or.inl (Or.inr rfl)) _))⟩
    · simp only [Option.some.injEq, Addr.mk.injEq, and_true] at hb'
      subst hb'
      have hkz : (k : Int) < (tn : Int) := by omega
      have hkn : decide (k < tn) = true := decide_eq_true (by omega)
      have hiz : (i : Int) < (cn1 : Int) := by omega
      have hrn : ((tr : Int) == (cr : Int)) = true := beq_iff_eq.2 (by omega)
      have NX := hidp (fun (W : World) (hb : Below wr.heap.size wr W) => HP.out.next (m' := wantR r0 (tr + 1)) rfl hX HN.out hb)
      have hw1 : wantR r0 (tr + 1) = if tr + 1 ≤ r0 then 1 else wantR r0 tr + (wantR r0 tr + 1) / 2 := rfl
      rw [← hmt] at hw1
      have hgkL : Hid (0 < gk) := by obtain ⟨_, _, t, ts', _, _, _, _, _, _, _, _, _, _, _, _, hq, _⟩ := hX; simp only [List.length_cons] at hq; show 0 < gk; omega
      clear hX HP hrr hmt
      by_cases hlow : tr + 1 ≤ r0
      · rw [if_pos hlow] at hw1
        have HW1 := hidp hw1
        clear hw1
        have hlz : ¬ (r0 : Int) < (tr : Int) + 1 := by omega
        go_wp2_with fail
        go_quiet (fail)
        generalize hwq : wr.drewN _ = wq
        have HBQ : Hid (Below wr.heap.size wr wq) := by show Below _ _ _; rw [← hwq]; exact below_drewN (Below.refl _ _) _
        have e0q : wq.cell? ⟨N, 0, none⟩ = some (.int .i64 (r0 : Int)) := by rw [← hwq]; exact e0
        have e2q : wq.cell? ⟨N, 2, none⟩ = some (.slice (some ⟨g, 0, none⟩) cn1 cc1) := by rw [← hwq]; exact e2
        have e3q : wq.cell? ⟨N, 3, none⟩ = some (.slice (some ⟨tb, 0, none⟩) tn tc) := by rw [← hwq]; exact e3
        have c2q : wq.cell? ⟨tb, k, none⟩ = some (.int .i64 (i : Int)) := by rw [← hwq]; exact c2
        have c4q : wq.cell? ⟨g, i * 6 + 1, none⟩ = some (.int .i64 (tr : Int)) := by rw [← hwq]; exact c4
        have c5q : wq.cell? ⟨g, i * 6 + 2, none⟩ = some (.int .i64 (mt : Int)) := by rw [← hwq]; exact c5
        have frq : wq.frozen? ⟨N, 2, none⟩ = false := by rw [← hwq]; exact fr2
        have hblq : N < wq.heap.size := by rw [← hwq]; exact hbl
        have v2q : g < wq.heap.size := by rw [← hwq]; exact v2
        have c1q : tb < wq.heap.size := by rw [← hwq]; exact c1
        clear hwq e0 e1 e2 e3 c1 c2 c4 c5 fr2 fr3 hbl v1 v2 hrl
        go_wp2_with (at_builtin; obtain ⟨Q, q1, q2, q3, q5⟩ := NX.out _ ((HBQ.out.alloc HBQ.out.size _).alloc (by have := HBQ.out.size; simp; omega) _); refine wpList_appendE EC rfl (.tmp 89) (.tmp 91) rfl base (.slice (some ⟨g, 0, none⟩) cn1 cc1) Q (joinC tr (wantR r0 (tr + 1)) i a) ⟨wq.heap.size + 1, 0, none⟩ 1 rfl q1 rfl (new_cell _ _ (by simp) tr (wantR r0 (tr + 1)) i a _ _ rfl (by rw [HW1.out]; rfl)) q2 q3 ?_; intro v' wa ho hg hbk; obtain ⟨g', cc', rfl, b2, f2, hC⟩ := q5 v' wa ho hg hbk; clear q1 q2 q3 q5 ho hg hbk; have HC := hidp hC; clear hC)
        go_wp2_with fail
        refine HC.out.mono ?_
        rintro e w9 ⟨rfl, hP9, _⟩
        have HP9 := hidp hP9
        clear hP9 HC b2 f2
        have hgk0 := hgkL.out
        go_wp2
        go_roundg (gk - 1)
        case measure => omega
        case rel => exact ⟨cn1, k + 1, g', cn1 + 1, cc', rfl, by go_num, HP9⟩
      · rw [if_neg hlow] at hw1
        have HW1 := hidp hw1
        clear hw1
        have hlz : (r0 : Int) < (tr : Int) + 1 := by omega
        go_wp2_with fail
        go_quiet (fail)
        generalize hwq : wr.drewN _ = wq
        have HBQ : Hid (Below wr.heap.size wr wq) := by show Below _ _ _; rw [← hwq]; exact below_drewN (Below.refl _ _) _
        have e0q : wq.cell? ⟨N, 0, none⟩ = some (.int .i64 (r0 : Int)) := by rw [← hwq]; exact e0
        have e2q : wq.cell? ⟨N, 2, none⟩ = some (.slice (some ⟨g, 0, none⟩) cn1 cc1) := by rw [← hwq]; exact e2
        have e3q : wq.cell? ⟨N, 3, none⟩ = some (.slice (some ⟨tb, 0, none⟩) tn tc) := by rw [← hwq]; exact e3
        have c2q : wq.cell? ⟨tb, k, none⟩ = some (.int .i64 (i : Int)) := by rw [← hwq]; exact c2
        have c4q : wq.cell? ⟨g, i * 6 + 1, none⟩ = some (.int .i64 (tr : Int)) := by rw [← hwq]; exact c4
        have c5q : wq.cell? ⟨g, i * 6 + 2, none⟩ = some (.int .i64 (mt : Int)) := by rw [← hwq]; exact c5
        have frq : wq.frozen? ⟨N, 2, none⟩ = false := by rw [← hwq]; exact fr2
        have hblq : N < wq.heap.size := by rw [← hwq]; exact hbl
        have v2q : g < wq.heap.size := by rw [← hwq]; exact v2
        have c1q : tb < wq.heap.size := by rw [← hwq]; exact c1
        clear hwq e0 e1 e2 e3 c1 c2 c4 c5 fr2 fr3 hbl v1 v2 hrl
        go_wp2_with fail
        go_region
        go_wp2_with (at_builtin; obtain ⟨Q, q1, q2, q3, q5⟩ := NX.out _ (((HBQ.out.alloc HBQ.out.size _).drew).alloc (by have := HBQ.out.size; simp; omega) _); refine wpList_appendE EC rfl (.tmp 89) (.tmp 91) rfl base (.slice (some ⟨g, 0, none⟩) cn1 cc1) Q (joinC tr (wantR r0 (tr + 1)) i a) ⟨wq.heap.size + 1, 0, none⟩ 1 rfl q1 rfl (new_cell _ _ (by simp) tr (wantR r0 (tr + 1)) i a _ _ rfl (by rw [HW1.out]; omega)) q2 q3 ?_; intro v' wa ho hg hbk; obtain ⟨g', cc', rfl, b2, f2, hC⟩ := q5 v' wa ho hg hbk; clear q1 q2 q3 q5 ho hg hbk; have HC := hidp hC; clear hC)
        go_wp2_with fail
        refine HC.out.mono ?_
        rintro e w9 ⟨rfl, hP9, _⟩
        have HP9 := hidp hP9
        clear hP9 HC b2 f2
        have hgk0 := hgkL.out
        go_wp2
        go_roundg (gk - 1)
        case measure => omega
        case rel => exact ⟨cn1, k + 1, g', cn1 + 1, cc', rfl, by go_num, HP9⟩
theorem softPush_any {w : World} {base r0 n : Nat} {F : Nat → Prop} {c t : SlW} {ts : List SN} {x0 x1 : Int} (hD : DocS w base F c t n ts) (hG : GoodS r0 n ts) (hm : (allS ts).length ≤ n) (hn : n < 400) (hbase : base ≤ w.heap.size) :
    Calls Tryd.prog 14 #[.agg #[.int .i64 (r0 : Int), .int .i64 (n : Int), .slice c.1 c.2.1 c.2.2, .slice t.1 t.2.1 t.2.2], .agg #[.int .i64 x0, .int .i64 x1]] w fun e w' => ∃ c' t' : SlW, e = .returned (.agg #[.int .i64 (r0 : Int), .int .i64 ((n : Int) + 1), .slice c'.1 c'.2.1 c'.2.2, .slice t'.1 t'.2.1 t'.2.2]) ∧ DocS w' base F c' t' (n + 1) (pushS r0 (x0, x1) ts) ∧ Chg (fun j => (Value.slice c.1 c.2.1 c.2.2).ownBlock = some j) w w' := by
  obtain ⟨cp, cn, cc⟩ := c
  obtain ⟨tp, tn, tc⟩ := t
  obtain ⟨_, _, _, _, _, h3, _⟩ := id hD
  obtain ⟨_, _, h | ⟨blk, h, _⟩⟩ := h3
  · obtain rfl : tp = none := h.1
    exact softPush_none hD hG hm hn hbase
  · obtain rfl : tp = some ⟨blk, 0, none⟩ := h
    exact softPush_some hD hG hm hn hbase
#print axioms softPush_any
end Go.Proofs.YtdpfijhkbhmkgaaDoor
