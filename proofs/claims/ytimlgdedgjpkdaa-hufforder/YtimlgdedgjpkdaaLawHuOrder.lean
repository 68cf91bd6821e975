/-
  The law HuffOrder, walked: the order does not matter; one weight more costs no less.
-/
import Derived.Test.YtimlgdedgjpkdaaLawHuBest
import Derived.Test.YtimlgdedgjpkdaaAppE
namespace Go.Proofs.Ytimlgdedgjpkdaa
open Go.RowKit Go.Sort Go.Proofs

theorem wl_ok {ws : List Nat} (h0 : 0 < ws.length) (h41 : ws.length ≤ 41) : within 40 (wl ws) ∧ roomW 40 (wl ws) = 2 ^ 40 := by
  obtain ⟨_, hw, hr⟩ := lenU_fact h0
  refine ⟨fun x hx => ?_, hr 40 (by omega)⟩
  unfold wl withD at hx
  obtain ⟨g, hg, rfl⟩ := List.mem_map.1 hx
  have hg2 : g.2 ∈ (gr0 ws).map Prod.snd := List.mem_map_of_mem hg
  rw [gr0_snd] at hg2
  have := hw _ (List.mem_range.1 hg2)
  unfold lenU at this
  show huffD _ _ _ _ ≤ 40
  omega
theorem wl_best {ws us : List Nat} (h0 : 0 < ws.length) (h41 : us.length ≤ 41) (p : us.Perm ws) : costW (wl ws) ≤ costW (wl us) := by
  have hu : 0 < us.length := by rw [p.length_eq]; exact h0
  obtain ⟨a, b⟩ := wl_ok hu h41
  refine (lenU_fact h0).1 40 (wl us) ?_ a (by rw [b]; exact Nat.le_refl _)
  rw [wl_fst]
  have e2 : (withD (huffD (ws.length - 1) ws.length (gr0 ws)) (gr0 ws)).map Prod.fst = ws := wl_fst ws
  rw [e2]
  exact p
theorem wl_perm {ws us : List Nat} (h0 : 0 < ws.length) (h41 : ws.length ≤ 41) (p : us.Perm ws) : costW (wl us) = costW (wl ws) :=
  Nat.le_antisymm (wl_best (by rw [p.length_eq]; exact h0) h41 p.symm) (wl_best h0 (by rw [p.length_eq]; exact h41) p)
/-- One weight more costs no less. -/
theorem wl_more {ws : List Nat} (h0 : 0 < ws.length) (h40 : ws.length ≤ 40) (a : Nat) : costW (wl ws) ≤ costW (wl (ws ++ [a])) := by
  have hl : (ws ++ [a]).length = ws.length + 1 := by simp
  obtain ⟨hw, hr⟩ := wl_ok (ws := ws ++ [a]) (by omega) (by omega)
  have hm := wl_fst (ws ++ [a])
  obtain ⟨x, R, p, q⟩ := take_out (L := wl (ws ++ [a])) (a := a) (ws := ws) (by rw [hm]; exact List.perm_append_comm (l₁ := ws) (l₂ := [a]))
  rw [costW_perm p, costW_cons]
  rw [roomW_perm p, roomW_cons] at hr
  have h1 : costW (wl ws) ≤ costW R := by
    refine (lenU_fact h0).1 40 R ?_ (fun y hy => hw y (p.symm.subset (List.mem_cons_of_mem _ hy))) (Nat.le_trans (Nat.le_add_left _ _) (Nat.le_of_eq hr))
    have e2 : (withD (huffD (ws.length - 1) ws.length (gr0 ws)) (gr0 ws)).map Prod.fst = ws := wl_fst ws
    rw [e2]
    exact q
  omega
theorem natL_append (a b : List Int) : natL (a ++ b) = natL a ++ natL b := by unfold natL; rw [List.map_append]
theorem natL_reverse (a : List Int) : natL a.reverse = (natL a).reverse := by unfold natL; rw [List.map_reverse]
theorem take_rev {l : List Int} {i : Nat} {x : Int} (h : l[i]? = some x) : (l.drop i).reverse = (l.drop (i + 1)).reverse ++ [x] := by
  obtain ⟨hi, e⟩ := List.getElem?_eq_some_iff.1 h
  rw [← List.getElem_cons_drop hi, List.reverse_cons, e]
set_option maxHeartbeats 16000000 in
set_option maxRecDepth 20000 in
theorem huffOrder_bad {w : World} {p : Option Addr} {n cap : Nat} {l : List Int} {m : Int} (h : SlE EZ w (.slice p n cap) l) (hbig : l.length ≤ 9223372036854775807) (h0 : wrongC l 1000 ≠ 0) :
    Calls Try.prog 5 #[.slice p n cap, .int .i64 m] w fun e w' => e = .returned (.bool true) ∧ Below w.heap.size w w' := by
  have C0 := hidp (huffFact_any w)
  have HX := hidp h
  have H0 := hidp h0
  clear h h0
  go_enter Try.func5, Try.ntmps5
  go_wp2_with fail
  refine C0.out.mono ?_
  rintro e w1 ⟨rfl, hb1⟩
  obtain ⟨k, c1⟩ := lengths_err (HX.out.below hb1) hbig H0.out
  have HC1 := hidp c1
  have HB1 := hidp hb1
  clear c1 hb1 C0
  go_wp2_with fail
  refine HC1.out.mono ?_
  rintro e w2 ⟨rfl, rfl⟩
  go_wp2
  go_ret
  exact ⟨rfl, HB1.out⟩
set_option maxHeartbeats 16000000 in
set_option maxRecDepth 20000 in
theorem huffOrder_ok {w : World} {p : Option Addr} {n cap : Nat} {l : List Int} {m : Int} (h : SlE EZ w (.slice p n cap) l) (h0 : wrongC l 1000 = 0) :
    Calls Try.prog 5 #[.slice p n cap, .int .i64 m] w fun e w' => e = .returned (.bool true) ∧ Below w.heap.size w w' := by
  have C0 := hidp (huffFact_any w)
  obtain ⟨hp, h40, hrng⟩ := wrongC_zero h0
  have hn := h.len.1
  have HX := hidp h
  have H0 := hidp h0
  have HN := hidp hn
  have HRNG := hidp hrng
  have hn40 : n ≤ 40 := by omega
  have hn0 : 0 < n := by omega
  clear h h0 hp h40 hrng hn
  go_enter Try.func5, Try.ntmps5
  go_wp2_with fail
  refine C0.out.mono ?_
  rintro e w1 ⟨rfl, hb1⟩
  have HC1 := hidp (lengths_sl (HX.out.below hb1) H0.out)
  rw [← HN.out] at HC1
  have HB1 := hidp hb1
  clear hb1 C0
  go_wp2_with fail
  refine HC1.out.mono ?_
  rintro e w2 ⟨g, c, rfl, hs2, _, hb2⟩
  have hb12 := HB1.out.trans (hb2.mono HB1.out.size)
  have HX2 := hidp (HX.out.below hb12)
  have HS2 := hidp hs2
  have HB2 := hidp hb12
  have hn1w : IntKind.i64.wrap ((n : Int) - 1) = (n : Int) - 1 := by rw [IntKind.wrap_i64]; omega
  clear hs2 hb2 hb12 HC1 HB1 HX
  go_wp2
  go_loopg [8, 10] n (fun gi vb vi wr => ∃ (r : Nat) (i : Int), vi = .int .i64 i ∧ i = (r : Int) - 1 ∧ r ≤ gi ∧ r ≤ n ∧ Hid (OwnE EZ wr w2.heap.size vb (l.drop r).reverse) ∧ Hid (Below w2.heap.size w2 wr))
  case atStart => exact ⟨n, _, rfl, rfl, Nat.le_refl _, Nat.le_refl _, (show Hid _ from by rw [List.drop_eq_nil_of_le (by have := HN.out; omega)]; exact OwnE.nil EZ w2 _), (show Hid _ from Below.refl _ _)⟩
  case round =>
    obtain ⟨r, i, rfl, hi, hr, hrn, HO, HB⟩ := hrel
    rcases Nat.eq_zero_or_pos r with hr0 | hr0
    · subst hr0
      have hiz : ¬ (0 : Int) ≤ i := by omega
      have hO := HO.out
      rw [List.drop_zero] at hO
      have HOB := hidp hO
      have HB3 := hidp (HB2.out.trans (HB.out.mono HB2.out.size))
      have HS3 := hidp (HS2.out.below HB.out)
      have HX3 := hidp (HX2.out.below HB.out)
      have HS1 : Hid (([] : List Int).length + l.length ≤ 1000000) := by show _ ≤ _; have := HN.out; simp; omega
      have HSZ : Hid (l.length ≤ 100000) := by show _ ≤ _; have := HN.out; omega
      obtain ⟨pb, kb, rfl⟩ := OwnE.form hO
      clear hO HO HB HX2 HS2 HB2
      rw [List.length_reverse, ← HN.out] at HOB
      rw [List.length_reverse, ← HN.out]
      have HR0 : Hid (wrongC l.reverse 1000 = 0) := by
        show _ = _
        refine wrongC_of (by rw [List.length_reverse]; have := HN.out; omega) (by rw [List.length_reverse]; have := HN.out; omega) fun x hx => HRNG.out x (List.mem_reverse.1 hx)
      obtain ⟨N, hN⟩ : ∃ N, costW (wl (natL l)) = N := ⟨_, rfl⟩
      have hNR : costW (wl (natL l.reverse)) = N := by
        rw [← hN, natL_reverse]
        exact wl_perm (by rw [natL_len, ← HN.out]; exact hn0) (by rw [natL_len, ← HN.out]; omega) (List.reverse_perm _)
      have hNM : ∀ K, costW (wl (natL (l ++ [m]))) = K → N ≤ K := fun K hK => by
        rw [← hN, ← hK, natL_append]
        exact wl_more (by rw [natL_len, ← HN.out]; exact hn0) (by rw [natL_len, ← HN.out]; exact hn40) m.toNat
      have HNN := hidp hN
      have HNR := hidp hNR
      have HNM := hidp hNM
      clear hN hNR hNM
      go_wp2_with (first | (at_builtin; refine wpList_append_slE EZ rfl (.tmp 48) (.tmp 49) rfl wr.heap.size _ _ [] l rfl rfl (OwnE.nil EZ wr _) HX3.out HS1.out (Nat.le_refl _) ?_; intro v3 w3 a1 a2; have hb3 := below_ownE (OwnE.nil EZ wr wr.heap.size) a2 (Nat.le_refl _) (Nat.le_refl _); rw [List.nil_append] at a1; obtain ⟨p3, k3, rfl⟩ := OwnE.form a1; have HW3 := hidp hb3; have HO3 := hidp (a1.alloc (.cells #[.int .i64 m] 3)); clear a1 a2 hb3) | (at_builtin; refine wpList_appendE EZ rfl (.tmp 51) (.tmp 53) rfl wr.heap.size _ l m ⟨w3.heap.size, 0, none⟩ 1 rfl HO3.out rfl (box_one w3 m) HSZ.out (by have := HW3.out.size; simp; omega) ?_; intro v4 w4 a1 a2 a3; have hb4 := below_ownE HO3.out a2 (Nat.le_refl _) (by have := HW3.out.size; simp; omega); obtain ⟨p4, k4, rfl⟩ := OwnE.form a1; have HW4 := hidp ((HW3.out.alloc HW3.out.size (.cells #[.int .i64 m] 3)).trans hb4); have HO4 := hidp a1; clear a1 a2 a3 hb4 HO3 HW3))
      have hl4 : (l ++ [m]).length = n + 1 := by rw [List.length_append, List.length_singleton, ← HN.out]
      have sb := (HOB.out.sl).below HW4.out
      have sx := HS3.out.below HW4.out
      have sw := HX3.out.below HW4.out
      have sm := HO4.out.sl
      rw [hl4] at sm
      have hbz := HB3.out.trans (HW4.out.mono HB3.out.size)
      have CL := lengths_sl sb HR0.out
      rw [List.length_reverse, ← HN.out] at CL
      have HCL := hidp CL
      have HSB := hidp sb
      have HSX := hidp sx
      have HSW := hidp sw
      have HSM := hidp sm
      have HBZ := hidp hbz
      clear sb sx sw sm hbz CL HOB HS3 HX3 HO4 HW4 HB3 HS1 HSZ
      rw [← HN.out]
      refine HCL.out.mono ?_
      rintro e w5 ⟨g5, c5, rfl, hs5, _, hb5⟩
      have sb := HSB.out.below hb5
      have sx := HSX.out.below hb5
      have sw := HSW.out.below hb5
      have sm := HSM.out.below hb5
      have C1 := cost_lens sw sx H0.out
      have C2 := cost_lens sb hs5 HR0.out
      rw [HNN.out] at C1
      rw [HNR.out] at C2
      have HC1 := hidp C1
      have HC2 := hidp C2
      have HSM5 := hidp sm
      have HB5 := hidp (HBZ.out.trans (hb5.mono HBZ.out.size))
      have hNe : ((N : Int) != (N : Int)) = false := by simp
      clear sb sx sw sm C1 C2 hs5 hb5 HCL HSB HSX HSW HSM HBZ
      go_wp2_with fail
      refine HC1.out.mono ?_
      rintro e w6 ⟨rfl, hw6⟩
      subst hw6
      go_wp2_with fail
      refine HC2.out.mono ?_
      rintro e w7 ⟨rfl, hw7⟩
      subst hw7
      clear HC1 HC2
      by_cases hM : wrongC (l ++ [m]) 1000 = 0
      · have HC3 := hidp (lengths_sl HSM5.out hM)
        rw [hl4] at HC3
        have HM := hidp hM
        clear hM
        go_wp2_with fail
        refine HC3.out.mono ?_
        rintro e w8 ⟨g8, c8, rfl, hs8, _, hb8⟩
        have C4 := cost_lens (HSM5.out.below hb8) hs8 HM.out
        obtain ⟨K, hK⟩ : ∃ K, costW (wl (natL (l ++ [m]))) = K := ⟨_, rfl⟩
        have hNK := HNM.out K hK
        rw [hK] at C4
        have HC4 := hidp C4
        have HB8 := hidp (HB5.out.trans (hb8.mono HB5.out.size))
        have hz : (N : Int) ≤ (K : Int) := by omega
        clear C4 hK hs8 hb8 HC3
        go_wp2_with fail
        refine HC4.out.mono ?_
        rintro e w9 ⟨rfl, rfl⟩
        go_wp2
        go_ret
        exact ⟨by simp, HB8.out⟩
      · obtain ⟨k, c3⟩ := lengths_err HSM5.out (by omega) hM
        have HC3 := hidp c3
        have hcase : n = 40 ∨ m < 0 ∨ 1000 < m := by
          rcases Classical.em (n = 40 ∨ m < 0 ∨ 1000 < m) with q | q
          · exact q
          · exfalso
            apply hM
            refine wrongC_of (by omega) (by omega) fun x hx => ?_
            rcases List.mem_append.1 hx with z | z
            · exact HRNG.out x z
            · rw [List.mem_singleton.1 z]; omega
        clear hM c3
        by_cases h40 : 40 ≤ n
        · have hz : (40 : Int) ≤ (n : Int) := by omega
          clear hcase
          go_wp2_with fail
          refine HC3.out.mono ?_
          rintro e w8 ⟨rfl, rfl⟩
          go_wp2
          go_ret
          exact ⟨by simp, HB5.out⟩
        · have hz : ¬ (40 : Int) ≤ (n : Int) := by omega
          have hd : decide (40 ≤ n) = false := decide_eq_false h40
          by_cases hm0 : m < 0
          · have hd2 : decide (m < 0) = true := decide_eq_true hm0
            clear hcase
            go_wp2_with fail
            refine HC3.out.mono ?_
            rintro e w8 ⟨rfl, rfl⟩
            go_wp2
            go_ret
            exact ⟨by simp, HB5.out⟩
          · have hm1 : 1000 < m := by omega
            have hd2 : decide (m < 0) = false := decide_eq_false hm0
            have hd3 : decide (1000 < m) = true := decide_eq_true hm1
            clear hcase
            go_wp2_with fail
            refine HC3.out.mono ?_
            rintro e w8 ⟨rfl, rfl⟩
            go_wp2
            go_ret
            exact ⟨by simp, HB5.out⟩
    · obtain ⟨j, rfl⟩ : ∃ j, r = j + 1 := ⟨r - 1, by omega⟩
      have hij : i = (j : Int) := by omega
      clear hi
      subst hij
      have hiz : (0 : Int) ≤ (j : Int) := by omega
      have hjn : (j : Int) < (n : Int) := by omega
      have hjw : IntKind.i64.wrap ((j : Int) - 1) = (j : Int) - 1 := by rw [IntKind.wrap_i64]; omega
      obtain ⟨x, hx⟩ : ∃ x, l[j]? = some x := ⟨_, List.getElem?_eq_getElem (by have := HN.out; omega)⟩
      obtain ⟨blk, off, rfl, _, _, hrd⟩ := (HX2.out.below HB.out).some (by omega)
      have c0 := hrd.int hx
      have HT := hidp (take_rev hx)
      have HOA := hidp (HO.out.alloc (.cells #[.int .i64 x] 3))
      have HNEW := hidp (box_one wr x)
      have HSZ : Hid ((l.drop (j + 1)).reverse.length ≤ 100000) := by show _ ≤ _; rw [List.length_reverse, List.length_drop]; have := HN.out; omega
      have HBS : Hid (w2.heap.size ≤ (wr.alloc (.cells #[.int .i64 x] 3)).heap.size) := by have := HB.out.size; show _ ≤ _; simp; omega
      clear hx hrd
      go_wp2_with (at_builtin; refine wpList_appendE EZ rfl (.tmp 41) (.tmp 46) rfl w2.heap.size _ (l.drop (j + 1)).reverse x ⟨wr.heap.size, 0, none⟩ 1 rfl HOA.out rfl HNEW.out HSZ.out HBS.out ?_; intro v1 w3 a1 a2 a3; have hb1 := below_ownE HOA.out a2 (Nat.le_refl _) HBS.out; have HB1 := hidp ((HB.out.alloc HB.out.size _).trans hb1); have HO1 := hidp a1; clear a1 a2 a3 hb1)
      go_roundg j
      case measure => omega
      case rel => exact ⟨j, _, rfl, rfl, Nat.le_refl _, by omega, (show OwnE _ _ _ _ _ by rw [HT.out]; exact HO1.out), HB1⟩
theorem huffOrder_any (v : Value) (xs : List Int) (m : Int) (w : World) (h : SlE EZ w v xs) (hbig : xs.length ≤ 9223372036854775807) :
    Calls Try.prog 5 #[v, .int .i64 m] w fun e w' => e = .returned (.bool true) ∧ Below w.heap.size w w' := by
  obtain ⟨p, cap, rfl, _⟩ := id h
  by_cases h0 : wrongC xs 1000 = 0
  · exact huffOrder_ok h h0
  · exact huffOrder_bad h hbig h0
#print axioms huffOrder_any
end Go.Proofs.Ytimlgdedgjpkdaa
