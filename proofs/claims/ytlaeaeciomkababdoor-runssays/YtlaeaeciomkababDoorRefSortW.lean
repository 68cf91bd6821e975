/-
  The document's own sort, walked.
-/
import Derived.Test.YtlaeaeciomkababDoorRefSort
namespace Go.Proofs.YtlaeaeciomkababDoor
open Go.RowKit Go.Sort Go.Proofs

theorem refSort_none (p : Option Addr) (cap : Nat) (w : World) : Calls Tryd.prog 58 #[.slice p 0 cap] w fun e w' => e = .returned (.slice none 0 0) ∧ w' = w := by
  go_enter Tryd.func58, Tryd.ntmps58
  go_wp2
  go_loop [3, 4] (fun o i => o = .slice none 0 0 ∧ i = .int .i64 0) (fun _ _ => 0)
  case atStart => exact ⟨rfl, rfl⟩
  case round =>
    obtain ⟨rfl, rfl⟩ := hrel
    go_wp2
    go_ret
    exact ⟨rfl, rfl⟩

/-- Some draws on. -/
structure Drawn (w w' : World) : Prop where
  ex : ∃ q, w' = w.drewN q
theorem Drawn.refl (w : World) : Drawn w w := ⟨⟨0, rfl⟩⟩
theorem Drawn.drewN {w w' : World} (h : Drawn w w') (n : Nat) : Drawn w (w'.drewN n) := by obtain ⟨⟨q, rfl⟩⟩ := h; exact ⟨⟨q + n, by rw [World.drewN_drewN]⟩⟩
theorem Drawn.drew {w w' : World} (h : Drawn w w') : Drawn w w'.drew := h.drewN 1
theorem Drawn.cell {w w' : World} (h : Drawn w w') (p : Addr) : w'.cell? p = w.cell? p := by obtain ⟨⟨q, rfl⟩⟩ := h; rfl
theorem Drawn.below {w w' a : World} {B : Nat} (h : Drawn w w') (hb : Below B a w) : Below B a w' := by obtain ⟨⟨q, rfl⟩⟩ := h; exact below_drewN hb q
theorem Drawn.size {w w' : World} (h : Drawn w w') : w.heap.size ≤ w'.heap.size := by obtain ⟨⟨q, rfl⟩⟩ := h; exact Nat.le_refl _

set_option maxHeartbeats 8000000 in
set_option maxRecDepth 4000 in
theorem refSort_some (blk off cap N : Nat) (xs : Array (Int × Int)) (w : World) (hx : RdAt w blk off xs) (hn : xs.size = N) (h60 : N ≤ 60) :
    Calls Tryd.prog 58 #[.slice (some ⟨blk, off, none⟩) N cap] w fun e w' => ∃ v, e = .returned v ∧ ∃ os, OwnI w' w.heap.size v os ∧ Sorts xs os.toArray ∧ Below w.heap.size w w' := by
  have HX : Hid (RdAt w blk off xs) := hx
  have HN : Hid (xs.size = N) := hn
  clear hx hn
  go_enter Tryd.func58, Tryd.ntmps58
  go_wp2
  go_loopg [3, 4] N (fun gg vo vi wr => ∃ (i : Nat) (os : List (Int × Int)), vi = .int .i64 i ∧ i + gg = N ∧ OwnI wr w.heap.size vo os ∧ os.length = i ∧ (i = 0 → vo = .slice none 0 0) ∧
    Aside (StEq (xs.toList.take i) os ∧ os.Pairwise (fun a b => a.1 ≤ b.1)) ∧ Below w.heap.size w wr)
  case atStart => exact ⟨0, [], rfl, by omega, OwnI.nil _ _, rfl, fun _ => rfl, (show Aside _ from ⟨fun _ => by simp, List.Pairwise.nil⟩), Below.refl _ _⟩
  case round =>
    obtain ⟨i, os, rfl, hg, HO, hlen, hnil, HST, hbr⟩ := hrel
    obtain ⟨wo, rfl⟩ : ∃ wo : World, wo = wr := ⟨_, rfl⟩
    by_cases hlt : i < N
    · have hlz : (i : Int) < (N : Int) := by omega
      obtain ⟨x0, x1, hx⟩ : ∃ x y, xs[i]! = (x, y) := ⟨_, _, rfl⟩
      have HXX : Hid (xs[i]! = (x0, x1)) := hx
      clear hx
      by_cases hi0 : 0 < i
      · obtain ⟨g, cp, hu, hgB, hglt, hcp, hcell⟩ := own_some hlen hi0 HO
        rw [hu]
        have HCELL : Hid (∀ j u, (flatL os)[j]? = some u → wo.cell? ⟨g, j, none⟩ = some u) := hcell
        have HLEN : Hid (os.length = i) := hlen
        clear hu hcell hnil hlen HO
        go_wp2
        go_loopg [5] i (fun gg vk wr => ∃ k : Nat, vk = .int .i64 k ∧ k + gg = i ∧ Drawn wo wr ∧ Aside (∀ t (ht : t < os.length), t < k → os[t].1 ≤ x0))
        case atStart => exact ⟨0, rfl, by omega, Drawn.refl _, (show Aside _ from fun t _ h => by omega)⟩
        case round =>
          obtain ⟨k, rfl, hgk, HD, HLO⟩ := hrel
          have hki : k ≤ i := by omega
          by_cases hk : k < i
          · have hkz : (k : Int) < (i : Int) := by omega
            have hkl : k < os.length := by rw [HLEN.out]; exact hk
            obtain ⟨y0, y1, hy⟩ : ∃ x y, os[k] = (x, y) := ⟨_, _, rfl⟩
            have hc := flatL_get os k hkl
            rw [hy] at hc
            have cy0 := (HD.cell _).trans (HCELL.out _ _ hc.1)
            have cy1 := (HD.cell _).trans (HCELL.out _ _ hc.2)
            obtain ⟨cx0, cx1⟩ := (HX.out.below (HD.below hbr) HX.out.1).2 i (by rw [HN.out]; exact hlt)
            rw [HXX.out] at cx0 cx1
            have HYY : Hid (os[k] = (y0, y1)) := hy
            clear hy hc
            by_cases hyx : y0 ≤ x0
            · have hd : decide (y0 ≤ x0) = true := decide_eq_true hyx
              go_wp2_with fail
              go_quiet (fail)
              go_wp2
              go_roundg (i - (k + 1))
              case measure => omega
              case rel =>
                refine ⟨k + 1, by go_num, by omega, HD.drewN nq, (show Aside _ from fun t ht h => ?_)⟩
                rcases Nat.lt_or_ge t k with c | c
                · exact HLO.out t ht c
                · obtain rfl : t = k := by omega
                  rw [HYY.out]; exact hyx
            · have hd : decide (y0 ≤ x0) = false := decide_eq_false hyx
              have HHI : Hid (∀ (ht : k < os.length), (x0, x1).1 < os[k].1) := by intro ht; rw [HYY.out]; show x0 < y0; omega
              go_wp2_with fail
              go_quiet (fail)
              clear cx0 cx1 cy0 cy1 hd hyx
              have HD2 := HD.drewN nq
              have hbq := HD2.below hbr
              have hszq : wo.heap.size ≤ (wr.drewN nq).heap.size := HD2.size
              have HCQ : Hid (∀ p : Addr, p.block < wo.heap.size → (wr.drewN nq).cell? p = wo.cell? p) := fun p _ => HD2.cell p
              clear HD HD2
              generalize wr.drewN nq = wq at hbq hszq HCQ ⊢
              have hput := put_in (x := (x0, x1)) (k := k) HST.out.1 HST.out.2 (fun t ht hk => HLO.out t ht hk) HHI.out (by rw [HLEN.out]; exact hki)
              have HPUT : Hid (StEq (xs.toList.take (i + 1)) (os.take k ++ [(x0, x1)] ++ os.drop k) ∧ (os.take k ++ [(x0, x1)] ++ os.drop k).Pairwise (fun a b => a.1 ≤ b.1)) := by
                show _ ∧ _
                have hix : i < xs.toList.length := by simp [HN.out]; omega
                rw [List.take_succ_eq_append_getElem hix, getD_toList xs i hix, HXX.out]; exact hput
              clear hput
              have HTK : Hid ((os.take k).length = k) := by show _ = _; rw [List.length_take, HLEN.out]; omega
              have hgq : g < wq.heap.size := Nat.lt_of_lt_of_le hglt hszq
              have HNA : Hid (∀ j u, (flatL (os.take k))[j]? = some u → wq.cell? ((⟨g, 0, none⟩ : Addr).add j) = some u) := by
                intro j u hu
                rw [show ((⟨g, 0, none⟩ : Addr).add j) = ⟨g, j, none⟩ by unfold Addr.add; split <;> simp_all]
                refine (HCQ.out ⟨g, j, none⟩ hglt).trans (HCELL.out j u ?_)
                have e : flatL os = flatL (os.take k) ++ flatL (os.drop k) := by rw [← flatL_append, List.take_append_drop]
                rw [e, List.getElem?_append_left (List.getElem?_eq_some_iff.1 hu).1]; exact hu
              have HRX : Hid (RdAt wq blk off xs) := HX.out.below hbq HX.out.1
              have hk1 : (k : Int) ≤ (cp : Int) := by omega
              have hk0 : (0 : Int) ≤ (k : Int) := by omega
              have hki' : (k : Int) ≤ (i : Int) := by omega
              by_cases hkc : k < cp
              · have hkc' : (k : Int) < (cp : Int) := by omega
                have HDK : Hid ((os.drop k).length = i - k) := by show _ = _; rw [List.length_drop, HLEN.out]
                have HNB : Hid (∀ w2, Below wq.heap.size wq w2 → ∀ j u, (flatL (os.drop k))[j]? = some u → w2.cell? ((⟨g, k * 2, none⟩ : Addr).add j) = some u) := by
                  intro w2 hb2 j u hu
                  rw [show ((⟨g, k * 2, none⟩ : Addr).add j) = ⟨g, k * 2 + j, none⟩ by unfold Addr.add; split <;> simp_all]
                  refine (hb2.cell (p := ⟨g, k * 2 + j, none⟩) hgq).trans ((HCQ.out ⟨g, k * 2 + j, none⟩ hglt).trans (HCELL.out _ u ?_))
                  have e : flatL os = flatL (os.take k) ++ flatL (os.drop k) := by rw [← flatL_append, List.take_append_drop]
                  rw [e, List.getElem?_append_right (by rw [flatL_len, HTK.out]; omega), flatL_len, HTK.out, show k * 2 + j - k * 2 = j by omega]; exact hu
                go_wp2_with (first | (at_builtin; refine wpList_append_items rfl (.tmp 32) (.tmp 35) rfl wq.heap.size (.slice none 0 0) [] (os.take k) ⟨g, 0, none⟩ k cp rfl rfl HTK.out (OwnI.nil _ _) HNA.out (by simp; have := HLEN.out; omega) (Nat.le_refl _) ?_; intro v1 w1 h1 hg1; have hb1 : Below wq.heap.size wq w1 := (Below.refl _ _).grown hg1 (Nat.le_refl _) (fun _ e => by simp [Value.ownBlock] at e); have hs1 : wq.heap.size ≤ w1.heap.size := hb1.size; obtain ⟨cx0, cx1⟩ := (HRX.out.below hb1 HRX.out.1).2 i (by rw [HN.out]; exact hlt); rw [HXX.out] at cx0 cx1; clear hg1) | (at_builtin; refine wpList_append_item rfl (.tmp 37) (.tmp 42) rfl wq.heap.size v1 ([] ++ os.take k) (x0, x1) ⟨w1.heap.size, 0, none⟩ 1 rfl (h1.alloc _) rfl (by simp) (by simp [Addr.add]) (by simp; have := HLEN.out; omega) (by simp; omega) ?_; intro v2 w2 h2 hg2 _; have hb2 : Below wq.heap.size wq w2 := (hb1.alloc hs1 (.cells #[.int .i64 x0, .int .i64 x1] 99)).trans (below_of_grown (h1.alloc _) hg2 (Nat.le_refl _) (by simp; omega)); have hs2 : wq.heap.size ≤ w2.heap.size := hb2.size; have hn3 := HNB.out w2 hb2; clear hg2 cx0 cx1) | (at_builtin; refine wpList_append_items rfl (.tmp 44) (.tmp 47) rfl wq.heap.size v2 (([] ++ os.take k) ++ [(x0, x1)]) (os.drop k) ⟨g, k * 2, none⟩ (i - k) (cp - k) rfl rfl HDK.out h2 hn3 (by simp; have := HLEN.out; omega) hs2 ?_; intro v3 w3 h3 hg3; have hb3 : Below wq.heap.size wq w3 := hb2.trans (below_of_grown h2 hg3 (Nat.le_refl _) hs2); clear hg3 hn3))
                go_roundg (N - (i + 1))
                case measure => omega
                case rel =>
                  refine ⟨i + 1, os.take k ++ [(x0, x1)] ++ os.drop k, by go_num, by omega, by simpa using h3.weak hbq.size, by simp; have := HLEN.out; omega, fun h => absurd h (by omega), (show Aside _ from HPUT.out), hbq.trans (hb3.mono hbq.size)⟩
              · exfalso; omega
          · have hkz : ¬ (k : Int) < (i : Int) := by omega
            have hkd : decide ((k : Int) < (i : Int)) = false := decide_eq_false hkz
            have HHI : Hid (∀ (ht : k < os.length), (x0, x1).1 < os[k].1) := by intro ht; rw [HLEN.out] at ht; omega
            go_wp2_with fail
            go_region
            have HD2 := HD.drew
            have hbq := HD2.below hbr
            have hszq : wo.heap.size ≤ wr.drew.heap.size := HD2.size
            have HCQ : Hid (∀ p : Addr, p.block < wo.heap.size → wr.drew.cell? p = wo.cell? p) := fun p _ => HD2.cell p
            clear HD HD2
            generalize wr.drew = wq at hbq hszq HCQ ⊢
            have hput := put_in (x := (x0, x1)) (k := k) HST.out.1 HST.out.2 (fun t ht hk => HLO.out t ht hk) HHI.out (by rw [HLEN.out]; exact hki)
            have HPUT : Hid (StEq (xs.toList.take (i + 1)) (os.take k ++ [(x0, x1)] ++ os.drop k) ∧ (os.take k ++ [(x0, x1)] ++ os.drop k).Pairwise (fun a b => a.1 ≤ b.1)) := by
              show _ ∧ _
              have hix : i < xs.toList.length := by simp [HN.out]; omega
              rw [List.take_succ_eq_append_getElem hix, getD_toList xs i hix, HXX.out]; exact hput
            clear hput
            have HTK : Hid ((os.take k).length = k) := by show _ = _; rw [List.length_take, HLEN.out]; omega
            have hgq : g < wq.heap.size := Nat.lt_of_lt_of_le hglt hszq
            have HNA : Hid (∀ j u, (flatL (os.take k))[j]? = some u → wq.cell? ((⟨g, 0, none⟩ : Addr).add j) = some u) := by
              intro j u hu
              rw [show ((⟨g, 0, none⟩ : Addr).add j) = ⟨g, j, none⟩ by unfold Addr.add; split <;> simp_all]
              refine (HCQ.out ⟨g, j, none⟩ hglt).trans (HCELL.out j u ?_)
              have e : flatL os = flatL (os.take k) ++ flatL (os.drop k) := by rw [← flatL_append, List.take_append_drop]
              rw [e, List.getElem?_append_left (List.getElem?_eq_some_iff.1 hu).1]; exact hu
            have HRX : Hid (RdAt wq blk off xs) := HX.out.below hbq HX.out.1
            have hk1 : (k : Int) ≤ (cp : Int) := by omega
            have hk0 : (0 : Int) ≤ (k : Int) := by omega
            have hki' : (k : Int) ≤ (i : Int) := by omega
            by_cases hkc : k < cp
            · have hkc' : (k : Int) < (cp : Int) := by omega
              have HDK : Hid ((os.drop k).length = i - k) := by show _ = _; rw [List.length_drop, HLEN.out]
              have HNB : Hid (∀ w2, Below wq.heap.size wq w2 → ∀ j u, (flatL (os.drop k))[j]? = some u → w2.cell? ((⟨g, k * 2, none⟩ : Addr).add j) = some u) := by
                intro w2 hb2 j u hu
                rw [show ((⟨g, k * 2, none⟩ : Addr).add j) = ⟨g, k * 2 + j, none⟩ by unfold Addr.add; split <;> simp_all]
                refine (hb2.cell (p := ⟨g, k * 2 + j, none⟩) hgq).trans ((HCQ.out ⟨g, k * 2 + j, none⟩ hglt).trans (HCELL.out _ u ?_))
                have e : flatL os = flatL (os.take k) ++ flatL (os.drop k) := by rw [← flatL_append, List.take_append_drop]
                rw [e, List.getElem?_append_right (by rw [flatL_len, HTK.out]; omega), flatL_len, HTK.out, show k * 2 + j - k * 2 = j by omega]; exact hu
              go_wp2_with (first | (at_builtin; refine wpList_append_items rfl (.tmp 32) (.tmp 35) rfl wq.heap.size (.slice none 0 0) [] (os.take k) ⟨g, 0, none⟩ k cp rfl rfl HTK.out (OwnI.nil _ _) HNA.out (by simp; have := HLEN.out; omega) (Nat.le_refl _) ?_; intro v1 w1 h1 hg1; have hb1 : Below wq.heap.size wq w1 := (Below.refl _ _).grown hg1 (Nat.le_refl _) (fun _ e => by simp [Value.ownBlock] at e); have hs1 : wq.heap.size ≤ w1.heap.size := hb1.size; obtain ⟨cx0, cx1⟩ := (HRX.out.below hb1 HRX.out.1).2 i (by rw [HN.out]; exact hlt); rw [HXX.out] at cx0 cx1; clear hg1) | (at_builtin; refine wpList_append_item rfl (.tmp 37) (.tmp 42) rfl wq.heap.size v1 ([] ++ os.take k) (x0, x1) ⟨w1.heap.size, 0, none⟩ 1 rfl (h1.alloc _) rfl (by simp) (by simp [Addr.add]) (by simp; have := HLEN.out; omega) (by simp; omega) ?_; intro v2 w2 h2 hg2 _; have hb2 : Below wq.heap.size wq w2 := (hb1.alloc hs1 (.cells #[.int .i64 x0, .int .i64 x1] 99)).trans (below_of_grown (h1.alloc _) hg2 (Nat.le_refl _) (by simp; omega)); have hs2 : wq.heap.size ≤ w2.heap.size := hb2.size; have hn3 := HNB.out w2 hb2; clear hg2 cx0 cx1) | (at_builtin; refine wpList_append_items rfl (.tmp 44) (.tmp 47) rfl wq.heap.size v2 (([] ++ os.take k) ++ [(x0, x1)]) (os.drop k) ⟨g, k * 2, none⟩ (i - k) (cp - k) rfl rfl HDK.out h2 hn3 (by simp; have := HLEN.out; omega) hs2 ?_; intro v3 w3 h3 hg3; have hb3 : Below wq.heap.size wq w3 := hb2.trans (below_of_grown h2 hg3 (Nat.le_refl _) hs2); clear hg3 hn3))
              go_roundg (N - (i + 1))
              case measure => omega
              case rel =>
                refine ⟨i + 1, os.take k ++ [(x0, x1)] ++ os.drop k, by go_num, by omega, by simpa using h3.weak hbq.size, by simp; have := HLEN.out; omega, fun h => absurd h (by omega), (show Aside _ from HPUT.out), hbq.trans (hb3.mono hbq.size)⟩
            · have hkc2 : k = cp := by omega
              have hik : i = k := by omega
              have HDK : Hid ((os.drop k).length = i - k) := by show _ = _; rw [List.length_drop, HLEN.out]
              have HNB : Hid (∀ w2, Below wq.heap.size wq w2 → ∀ j u, (flatL (os.drop k))[j]? = some u → w2.cell? ((⟨g, 0, none⟩ : Addr).add j) = some u) := by
                intro w2 hb2 j u hu
                have hj := (List.getElem?_eq_some_iff.1 hu).1
                rw [flatL_len, HDK.out] at hj
                omega
              have HKC : Hid (k = cp) := hkc2
              have HIK : Hid (i = k) := hik
              clear hkc2 hik
              go_wp2_with (first | (at_builtin; refine wpList_append_items rfl (.tmp 32) (.tmp 35) rfl wq.heap.size (.slice none 0 0) [] (os.take k) ⟨g, 0, none⟩ k cp rfl rfl HTK.out (OwnI.nil _ _) HNA.out (by simp; have := HLEN.out; omega) (Nat.le_refl _) ?_; intro v1 w1 h1 hg1; have hb1 : Below wq.heap.size wq w1 := (Below.refl _ _).grown hg1 (Nat.le_refl _) (fun _ e => by simp [Value.ownBlock] at e); have hs1 : wq.heap.size ≤ w1.heap.size := hb1.size; obtain ⟨cx0, cx1⟩ := (HRX.out.below hb1 HRX.out.1).2 i (by rw [HN.out]; exact hlt); rw [HXX.out] at cx0 cx1; clear hg1) | (at_builtin; refine wpList_append_item rfl (.tmp 37) (.tmp 42) rfl wq.heap.size v1 ([] ++ os.take k) (x0, x1) ⟨w1.heap.size, 0, none⟩ 1 rfl (h1.alloc _) rfl (by simp) (by simp [Addr.add]) (by simp; have := HLEN.out; omega) (by simp; omega) ?_; intro v2 w2 h2 hg2 _; have hb2 : Below wq.heap.size wq w2 := (hb1.alloc hs1 (.cells #[.int .i64 x0, .int .i64 x1] 99)).trans (below_of_grown (h1.alloc _) hg2 (Nat.le_refl _) (by simp; omega)); have hs2 : wq.heap.size ≤ w2.heap.size := hb2.size; have hn3 := HNB.out w2 hb2; clear hg2 cx0 cx1) | (at_builtin; refine wpList_append_items rfl (.tmp 44) (.tmp 47) rfl wq.heap.size v2 (([] ++ os.take k) ++ [(x0, x1)]) (os.drop k) ⟨g, 0, none⟩ (i - k) (cp - k) rfl rfl HDK.out h2 hn3 (by simp; have := HLEN.out; omega) hs2 ?_; intro v3 w3 h3 hg3; have hb3 : Below wq.heap.size wq w3 := hb2.trans (below_of_grown h2 hg3 (Nat.le_refl _) hs2); clear hg3 hn3))
              go_roundg (N - (i + 1))
              case measure => omega
              case rel =>
                refine ⟨i + 1, os.take k ++ [(x0, x1)] ++ os.drop k, by go_num, by omega, by simpa using h3.weak hbq.size, by simp; have := HLEN.out; omega, fun h => absurd h (by omega), (show Aside _ from HPUT.out), hbq.trans (hb3.mono hbq.size)⟩
      · obtain rfl : i = 0 := by omega
        obtain rfl : os = [] := List.eq_nil_of_length_eq_zero hlen
        rw [hnil rfl]
        have hn1 := fun w' => run_append_nothing w' 97 0 (.slice none 0 0) [] 0 (OwnI.nil w' 0)
        have hbq := hbr
        clear hnil HO hlen
        obtain ⟨cx0, cx1⟩ := (HX.out.below hbr HX.out.1).2 0 (by rw [HN.out]; exact hlt)
        rw [HXX.out] at cx0 cx1
        simp only [Nat.zero_mul, Nat.add_zero] at cx0 cx1
        have HPUT : Hid (StEq (xs.toList.take 1) [(x0, x1)]) := by
          show StEq _ _
          have hix : 0 < xs.toList.length := by simp [HN.out]; omega
          rw [List.take_succ_eq_append_getElem hix, getD_toList xs 0 hix, HXX.out]
          intro q; simp
        go_wp2
        go_loopg [5] 0 (fun gg vk wr => vk = .int .i64 0 ∧ Drawn wo wr)
        case atStart => exact ⟨rfl, Drawn.refl _⟩
        case round =>
          obtain ⟨rfl, HD⟩ := hrel
          go_wp2_with fail
          go_region
          have HD2 := HD.drew
          have hbq := HD2.below hbr
          have c0 := (HD2.cell _).trans cx0
          have c1 := (HD2.cell _).trans cx1
          clear HD HD2 cx0 cx1
          generalize wr.drew = wq at hbq c0 c1 ⊢
          go_wp2_with (first | (at_builtin; refine wpList_append_item rfl (.tmp 37) (.tmp 42) rfl wq.heap.size (.slice none 0 0) [] (x0, x1) ⟨wq.heap.size, 0, none⟩ 1 rfl (OwnI.nil _ _) rfl (by simp) (by simp [Addr.add]) (by simp) (by simp) ?_; intro v2 w2 h2 hg2 _; have hb2 : Below wq.heap.size wq w2 := ((Below.refl wq.heap.size wq).alloc (Nat.le_refl _) (.cells #[.int .i64 x0, .int .i64 x1] 99)).trans (below_of_grown (v := .slice none 0 0) (OwnI.nil _ wq.heap.size) hg2 (Nat.le_refl _) (by simp)); clear hg2) | (at_builtin; refine wpList_append_nothing rfl (.tmp 44) (.tmp 47) rfl wq.heap.size v2 _ 0 rfl rfl h2 ?_))
          go_roundg (N - (0 + 1))
          case measure => omega
          case rel => exact ⟨1, [(x0, x1)], by go_num, by omega, by simpa using h2.weak hbq.size, rfl, fun h => absurd h (by omega), (show Aside _ from ⟨HPUT.out, List.pairwise_singleton _ _⟩), hbq.trans (hb2.mono hbq.size)⟩
    · have hlz : ¬ (i : Int) < (N : Int) := by omega
      obtain rfl : i = N := by omega
      have HF : Hid (Sorts xs os.toArray) := by
        refine ⟨by simp [hlen, HN.out], ?_, ?_⟩
        · have := HST.out.1
          rw [List.take_of_length_le (by simp [HN.out])] at this
          exact this
        · refine srtB_srt (srtB_true fun t ht => ?_)
          have ht' : t + 1 < os.length := by simpa using ht
          have := (List.pairwise_iff_getElem.1 HST.out.2) t (t + 1) (by omega) ht' (by omega)
          rw [getElem!_pos _ t (by simp; omega), getElem!_pos _ (t + 1) (by simpa using ht)]
          simpa using this
      go_wp2
      go_ret
      exact ⟨_, rfl, os, HO, HF.out, hbr⟩
#print axioms refSort_some

theorem refSort_any (v : Value) (xs : Array (Int × Int)) (w : World) (h : Sl w v xs) (h60 : xs.size ≤ 60) :
    Calls Tryd.prog 58 #[v] w fun e w' => ∃ u, e = .returned u ∧ ∃ os, OwnI w' w.heap.size u os ∧ Sorts xs os.toArray ∧ Below w.heap.size w w' := by
  obtain ⟨p, cap, rfl, _, hp | ⟨blk, off, rfl, hr⟩⟩ := h
  · have e0 : xs = #[] := Array.eq_empty_of_size_eq_zero hp
    subst e0
    exact (refSort_none p cap w).mono fun e w' ⟨h1, h2⟩ => ⟨_, h1, [], OwnI.nil _ _, ⟨rfl, fun _ => rfl, fun i j _ _ h3 => absurd h3 (Nat.not_lt_zero _)⟩, by rw [h2]; exact Below.refl _ _⟩
  · exact refSort_some blk off cap xs.size xs w hr rfl h60
end Go.Proofs.YtlaeaeciomkababDoor
