/-
  The law SoftRight, walked: small ones are right.
-/
import Derived.Test.YtmgfinephghmaaaDoorLawSRight1
import Derived.Test.YtmgfinephghmaaaDoorTold
namespace Go.Proofs.YtmgfinephghmaaaDoor
open Go.RowKit Go.Sort Go.Proofs Go.Lib

set_option maxHeartbeats 4000000 in
theorem softRight_bad (rk : Int) (v : Value) (w : World) (h : rk < 0 ∨ 8 < rk) : Calls Tryd.prog 3 #[.int .i64 rk, v] w fun e w' => e = .returned (.bool true) ∧ Below w.heap.size w w' := by
  have c0 := softFact_any w
  go_enter Tryd.func3, Tryd.ntmps3
  go_wp2_with fail
  refine c0.mono ?_
  rintro e w1 ⟨rfl, hb1⟩
  clear c0
  go_wp2_with fail
  refine (new_bad h).mono ?_
  rintro e w2 ⟨rfl, rfl⟩
  clear h
  go_wp2
  go_ret
  exact ⟨rfl, hb1⟩
theorem err5 : errV 5 = .iface 47 (.int .i64 5) := rfl
set_option maxHeartbeats 16000000 in
set_option maxRecDepth 4000 in
theorem softRight_some (r0 : Nat) (rk : Int) (p : Option Addr) (n cap : Nat) (xs : Array (Int × Int)) (w : World) (hgl : Glob w) (h8 : r0 ≤ 8) (hrk : rk = (r0 : Int)) (h : Sl w (.slice p n cap) xs) : Calls Tryd.prog 3 #[.int .i64 rk, .slice p n cap] w fun e w' => e = .returned (.bool true) ∧ Below w.heap.size w w' := by
  have HX : Hid (∀ i, i < n → ∃ blk off x0 x1, p = some ⟨blk, off, none⟩ ∧ ∀ w1, Below w.heap.size w w1 → w1.cell? ⟨blk, off + i * 2, none⟩ = some (.int .i64 x0) ∧ w1.cell? ⟨blk, off + i * 2 + 1, none⟩ = some (.int .i64 x1)) := fun i hi => by
    obtain ⟨blk, off, x0, x1, q1, q2, q3, q4, _⟩ := h.reads i hi
    exact ⟨blk, off, x0, x1, q1, fun w1 hb1 => ⟨(hb1.cell (p := ⟨blk, off + i * 2, none⟩) q2).trans q3, (hb1.cell (p := ⟨blk, off + i * 2 + 1, none⟩) q2).trans q4⟩⟩
  have c0 := softFact_any w
  have CN : Hid (∀ w1, Calls Tryd.prog 6 #[.int .i64 rk] w1 fun e w' => ∃ hb, e = .returned (.tuple #[.pointer (some ⟨hb, 0, none⟩), .nilIface]) ∧ SH w' w1.heap.size hb r0 0 [] [hb] ∧ Below w1.heap.size w1 w') := fun w1 => by rw [hrk]; exact sh_new (w := w1) h8
  have HRK := hid hrk
  have HGL := hid hgl
  have k4 := guard_item
  clear h hrk hgl
  go_enter Tryd.func3, Tryd.ntmps3
  go_wp2_with fail
  refine c0.mono ?_
  rintro e w1 ⟨rfl, hb1⟩
  clear c0
  go_wp2_with fail
  refine (CN.out w1).mono ?_
  rintro e w2 ⟨hb, rfl, h2, hb2⟩
  have HA : Hid (RightA w w1 hb r0 0 none 0 0 [] [] [hb] w2) := ⟨h2, OwnI.nil _ _, rfl, OutL.nil _, List.Perm.refl _, Nat.two_pow_pos _, hb1.trans (hb2.mono hb1.size), hb2.size, hb1.size⟩
  clear hb1 hb2 h2 CN
  go_wp2_with fail
  go_loopg [8, 9, 10] 500 (fun gg v8 v9 v10 wr => ∃ (i N L c : Nat) (q : Option Addr) (hs : List (Int × Int)) (ts : List SN) (f : List Nat), v8 = .slice q L c ∧ v9 = .int .i64 N ∧ v10 = .int .i64 i ∧ i ≤ 500 ∧ 500 - i ≤ gg ∧ RightA w w1 hb r0 N q L c hs ts f wr)
  case atStart => exact ⟨0, 0, 0, 0, none, [], [], _, rfl, rfl, rfl, by omega, by omega, HA.out⟩
  case round =>
    clear HA
    obtain ⟨i, N, L, c, q, hs, ts, f, rfl, rfl, rfl, hi, hgg, hA⟩ := hrel
    rcases Nat.lt_or_ge i n with hlt | hge
    · have hz : (i : Int) < (n : Int) := by omega
      rcases Nat.lt_or_ge i 500 with h9 | h9
      · have hz9 : (i : Int) < 500 := by omega
        obtain ⟨blk, off, x0, x1, rfl, hcx⟩ := HX.out i hlt
        obtain ⟨c0, c1⟩ := hcx wr hA.below
        have HCX := hid hcx
        have hL := hA.short
        have hN4 : N ≤ 400 := hA.heap.most
        have HR := hid hA
        clear hA hcx
        by_cases h7 : x1 = 7
        · have h7b : (x1 != 7) = false := by simp [h7]
          by_cases hne : ts = []
          · have hL0 := HR.out.none.1 hne
            subst hL0
            subst hne
            have CP := hid (sh_none HR.out.heap)
            rw [← err5] at CP
            go_wp2_with fail
            refine CP.out.mono ?_
            rintro e w2 ⟨rfl, _, hb2⟩
            have H2 := hid (HR.out.below' hb2)
            have hbA : Below w2.heap.size w2 (w2.alloc (.cells #[.int .i64 0, .int .i64 0] 30)) := (Below.refl _ w2).alloc (Nat.le_refl _) _
            have H3 := hid (H2.out.below' hbA)
            have CE := hid (error_any 5 5 _ (HGL.out.below H3.out.below))
            clear hb2 HR CP H2 hbA
            go_wp2_with fail
            refine CE.out.mono ?_
            rintro e w4 ⟨rfl, hb4⟩
            have H4 := hid (H3.out.below' hb4)
            clear hb4 H3 CE
            go_wp2
            go_roundg (500 - (i + 1))
            case measure => omega
            case rel => exact ⟨i + 1, N, 0, c, q, _, _, _, rfl, rfl, by go_num, by omega, Nat.le_refl _, H4.out⟩
          · have hL0 : L ≠ 0 := fun z => hne (HR.out.none.2 z)
            obtain ⟨m, rfl⟩ : ∃ m, L = m + 1 := ⟨L - 1, by omega⟩
            obtain ⟨g, cap', e, _⟩ := OwnE.some (E := EI) (show OwnE EI wr w1.heap.size (.slice q (m + 1) c) hs from HR.out.own) HR.out.len (by omega)
            simp only [Value.slice.injEq] at e
            obtain ⟨rfl, _, rfl⟩ := e
            obtain ⟨k, r, mm, y0, y1, is, a, b, hnode, hperm, hyk, hyr, hleast, cp⟩ := sh_pop HR.out.heap HR.out.size hne
            obtain ⟨hkey, hall⟩ := HR.out.least hnode hyr hleast
            simp only at hkey
            subst hkey
            have CP := hid cp
            have HPM := hid hperm
            have HALL := hid hall
            clear cp hperm hall hnode hyr hleast hyk hne is a b
            go_wp2_with fail
            refine CP.out.mono ?_
            rintro e w2 ⟨rfl, f2, h2, s2⟩
            have hC := HR.out.popped HPM.out h2 s2
            have hbA : Below w2.heap.size w2 (w2.alloc (.cells #[.int .i64 y0, .int .i64 y1] 30)) := (Below.refl _ w2).alloc (Nat.le_refl _) _
            have HC := hid (hC.below' hbA)
            have hw2 : w1.heap.size ≤ w2.heap.size := hC.size
            have hg2 : g < w2.heap.size := (World.ownsRow.lt hC.own g rfl).2
            clear h2 s2 hC hbA CP HR HPM
            have hmz : ¬ ((m : Int) + 1 = 0) := by omega
            have hCELL : Hid (∀ j x, hs[j]? = some x → (w2.alloc (.cells #[.int .i64 y0, .int .i64 y1] 30)).cell? ⟨g, j * 2, none⟩ = some (.int .i64 x.1) ∧ (w2.alloc (.cells #[.int .i64 y0, .int .i64 y1] 30)).cell? ⟨g, j * 2 + 1, none⟩ = some (.int .i64 x.2)) := fun j x e => own_item (OwnE.weak (E := EI) HC.out.own (Nat.zero_le _)) e
            go_wp2_with fail
            obtain ⟨W3, hW3⟩ : ∃ W3, w2.alloc (.cells #[.int .i64 y0, .int .i64 y1] 30) = W3 := ⟨_, rfl⟩
            have z0 : W3.cell? ⟨w2.heap.size, 0, none⟩ = some (.int .i64 y0) := by rw [← hW3]; simp
            have z1 : W3.cell? ⟨w2.heap.size, 1, none⟩ = some (.int .i64 y1) := by rw [← hW3]; simp
            rw [hW3] at HC hCELL ⊢
            obtain ⟨M, hM⟩ : ∃ M, w2.heap.size = M := ⟨_, rfl⟩
            rw [hM] at z0 z1 ⊢
            clear hW3 hM hw2 hg2
            go_loopg [14, 15] (m + 1) (fun gg v14 v15 wr2 => ∃ j qq : Nat, v14 = .int .i64 (lastI hs (y0, y1) j) ∧ v15 = .int .i64 j ∧ j ≤ m + 1 ∧ m + 1 - j ≤ gg ∧ wr2 = W3.drewN qq)
            case atStart => exact ⟨0, 0, rfl, rfl, Nat.zero_le _, by omega, rfl⟩
            case round =>
              obtain ⟨j, qq, rfl, rfl, hj, hgg2, rfl⟩ := hrel
              rcases Nat.lt_or_ge j (m + 1) with hjt | hjt
              · have hjz : (j : Int) < (m : Int) + 1 := by omega
                obtain ⟨⟨t0, t1⟩, ht⟩ : ∃ x, hs[j]? = some x := ⟨_, List.getElem?_eq_getElem (by rw [HC.out.len]; exact hjt)⟩
                obtain ⟨d0, d1⟩ := hCELL.out j _ ht
                have hle : ¬ (t0 < y0) := by have := HALL.out (t0, t1) (List.mem_of_getElem? ht); simp only at this; omega
                have hst : lastI hs (y0, y1) (j + 1) = if (t0 == y0 && t1 == y1) = true then (j : Int) else lastI hs (y0, y1) j := by
                  simp only [lastI]
                  rw [ht]
                  by_cases u0 : t0 = y0 <;> by_cases u1 : t1 = y1 <;> simp [u0, u1]
                obtain ⟨A, hA⟩ : ∃ A, lastI hs (y0, y1) j = A := ⟨_, rfl⟩
                rw [hA] at hst ⊢
                clear hA ht
                have e1 := fun w => equalIn_item t0 t1 y0 y1 w
                have f1 := fun w => eql_item t0 t1 y0 y1 w
                generalize (t0 == y0 && t1 == y1) = ra at e1 f1 hst
                have HST := hid hst
                clear hst
                cases ra
                all_goals
                  go_wp2_with fail
                  go_quiet (fail)
                  go_wp2
                  go_roundg (m + 1 - (j + 1))
                  case measure => omega
                  case rel => exact ⟨j + 1, _, by rw [HST.out]; rfl, by go_num, by omega, Nat.le_refl _, by first | rfl | rw [World.drewN_drewN]⟩
              · obtain rfl : j = m + 1 := by omega
                clear hCELL HALL
                obtain ⟨v0, v1, v2⟩ := HC.out.found
                obtain ⟨A, hA⟩ : ∃ A : Nat, lastI hs (y0, y1) (m + 1) = A := ⟨(lastI hs (y0, y1) (m + 1)).toNat, by omega⟩
                rw [hA] at v0 v1 v2 ⊢
                clear hA
                rw [Int.toNat_natCast] at v2
                have hAm : A < m + 1 := by omega
                have H4 := hid (HC.out.below' (below_drewN' (Below.refl _ W3) qq))
                have CW := hid (sh_wrong H4.out.heap)
                rw [H4.out.wrong] at CW
                have hA0 : ¬ ((A : Int) < 0) := by omega
                clear HC v0 v1
                go_wp2_with fail
                refine CW.out.mono ?_
                rintro e w5 ⟨rfl, _, hb5⟩
                have H5 := hid (H4.out.below' hb5)
                clear hb5 H4 CW z0 z1
                obtain ⟨⟨b0, b1⟩, hlast⟩ : ∃ x, hs[m]? = some x := ⟨_, List.getElem?_eq_getElem (by rw [H5.out.len]; omega)⟩
                have hE : OwnE EI w5 0 (.slice (some ⟨g, 0, none⟩) (m + 1) c) hs := OwnE.weak (E := EI) H5.out.own (Nat.zero_le _)
                obtain ⟨l0, l1⟩ := own_item hE hlast
                obtain ⟨a0, a1⟩ := own_item hE v2
                obtain ⟨_, hcc, hcm⟩ := hE.capBound
                have fr0 := (hE.there (j := A * 2) (by show A * 2 < c * 2; omega)).2
                have fr1 := (hE.there (j := A * 2 + 1) (by show A * 2 + 1 < c * 2; omega)).2
                unfold maxLen at hcm
                have HDN := hid (H5.out.done v2 hlast)
                clear hE hlast v2 H5
                go_wp2
                go_roundg (500 - (i + 1))
                case measure => omega
                case rel => exact ⟨i + 1, N, m, c, _, _, _, _, rfl, rfl, by go_num, by omega, Nat.le_refl _, HDN.out⟩
        · have h7b : (x1 != 7) = true := by simp [h7]
          have htwo : (rk = 0 ∧ twoR r0 = 2) ∨ (rk = 1 ∧ twoR r0 = 4) ∨ (rk = 2 ∧ twoR r0 = 8) ∨ (rk = 3 ∧ twoR r0 = 16) ∨ (rk = 4 ∧ twoR r0 = 32) ∨ (rk = 5 ∧ twoR r0 = 64) ∨ (rk = 6 ∧ twoR r0 = 128) ∨ (rk = 7 ∧ twoR r0 = 256) ∨ (rk = 8 ∧ twoR r0 = 512) := by
            have := HRK.out
            have h9 : r0 = 0 ∨ r0 = 1 ∨ r0 = 2 ∨ r0 = 3 ∨ r0 = 4 ∨ r0 = 5 ∨ r0 = 6 ∨ r0 = 7 ∨ r0 = 8 := by omega
            rcases h9 with rfl | rfl | rfl | rfl | rfl | rfl | rfl | rfl | rfl <;> simp [this, twoR]
          obtain ⟨T, hT⟩ : ∃ T, twoR r0 = T := ⟨_, rfl⟩
          rw [hT] at htwo
          by_cases hp : N + 1 < T
          · have hf : N + 1 < twoR r0 := by rw [hT]; exact hp
            by_cases hx : wrongS1 N x0 x1 = 0
            · have CP := hid (sh_push HR.out.heap HR.out.size hx)
              have PUSH : Hid (∀ (w2 : World) (f2 : List Nat), SH w2 w1.heap.size hb r0 (N + 1) (pushS r0 (x0, x1) ts) f2 → Step f f2 wr w2 → w2.cell? ⟨blk, off + i * 2, none⟩ = some (.int .i64 x0) ∧ w2.cell? ⟨blk, off + i * 2 + 1, none⟩ = some (.int .i64 x1) ∧ w1.heap.size ≤ w2.heap.size ∧ Hid (OwnI (w2.alloc (.cells #[.int .i64 x0, .int .i64 x1] 30)) w1.heap.size (.slice q L c) hs ∧ ∀ v' wa, OwnI wa w1.heap.size v' (hs ++ [(x0, x1)]) → (w2.alloc (.cells #[.int .i64 x0, .int .i64 x1] 30)).grownBy wa (Value.slice q L c).ownBlock → (v'.ownBlock = (Value.slice q L c).ownBlock ∨ v'.ownBlock = some (w2.alloc (.cells #[.int .i64 x0, .int .i64 x1] 30)).heap.size) →
                  ∃ q' c', v' = .slice q' (L + 1) c' ∧ RightA w w1 hb r0 (N + 1) q' (L + 1) c' (hs ++ [(x0, x1)]) (pushS r0 (x0, x1) ts) f2 wa)) := by
                intro w2 f2 h2 s2
                have hb2 : Below w.heap.size w w2 := HR.out.below.trans ((HR.out.heap.step HR.out.size s2).mono HR.out.room)
                obtain ⟨k1, k2, k3⟩ := HR.out.pushed hf h2 s2 (.cells #[.int .i64 x0, .int .i64 x1] 30)
                exact ⟨(HCX.out w2 hb2).1, (HCX.out w2 hb2).2, k2, k1, k3⟩
              have hsl : hs.length ≤ 1000 := by rw [HR.out.len]; omega
              have HTT := hid hT
              clear HR HCX hx hf HX HGL HRK hT
              rcases htwo with ⟨rfl, htw⟩ | ⟨rfl, htw⟩ | ⟨rfl, htw⟩ | ⟨rfl, htw⟩ | ⟨rfl, htw⟩ | ⟨rfl, htw⟩ | ⟨rfl, htw⟩ | ⟨rfl, htw⟩ | ⟨rfl, htw⟩
              all_goals
                subst htw
                go_wp2_with fail
                refine CP.out.mono ?_
                rintro e w2 ⟨rfl, f2, h2, s2⟩
                obtain ⟨c0', c1', hw2, HKK⟩ := PUSH.out w2 f2 h2 s2
                clear h2 s2 CP PUSH c0 c1
                go_wp2_with (first | (at_builtin; refine wpList_append_item rfl (.tmp 56) (.tmp 61) rfl w1.heap.size (.slice q L c) hs (x0, x1) ⟨w2.heap.size, 0, none⟩ 1 rfl HKK.out.1 rfl (by simp) (by simp [Addr.add]) (by omega) (by simp; omega) ?_; intro v' wa hA' hgA hkA))
                obtain ⟨q', c', rfl, hnew⟩ := HKK.out.2 _ _ hA' hgA hkA
                have HW := hid hnew
                clear hnew hA' hgA hkA HKK
                go_roundg (500 - (i + 1))
                case measure => omega
                case rel => exact ⟨i + 1, N + 1, L + 1, c', q', _, _, _, rfl, by go_num, by go_num, by omega, Nat.le_refl _, HW.out⟩
            · have CP := hid (sh_full HR.out.heap hx)
              obtain ⟨ev, hev⟩ : ∃ ev : Int, errV (wrongS1 N x0 x1) = .iface 47 (.int .i64 ev) := ⟨_, by unfold errV; rw [if_neg hx]⟩
              rw [hev] at CP
              have HTT := hid hT
              clear hev hx HCX hf hT
              rcases htwo with ⟨rfl, htw⟩ | ⟨rfl, htw⟩ | ⟨rfl, htw⟩ | ⟨rfl, htw⟩ | ⟨rfl, htw⟩ | ⟨rfl, htw⟩ | ⟨rfl, htw⟩ | ⟨rfl, htw⟩ | ⟨rfl, htw⟩
              all_goals
                subst htw
                go_wp2_with fail
                refine CP.out.mono ?_
                rintro e w2 ⟨rfl, _, hb2⟩
                have HW := hid (HR.out.below' hb2)
                clear hb2 CP HR
                go_wp2
                go_roundg (500 - (i + 1))
                case measure => omega
                case rel => exact ⟨i + 1, N, L, c, q, _, _, _, rfl, rfl, by go_num, by omega, Nat.le_refl _, HW.out⟩
          · have HBR := hid HR.out.below
            have HTT := hid hT
            clear HR HCX HX HGL HRK hT
            rcases htwo with ⟨rfl, htw⟩ | ⟨rfl, htw⟩ | ⟨rfl, htw⟩ | ⟨rfl, htw⟩ | ⟨rfl, htw⟩ | ⟨rfl, htw⟩ | ⟨rfl, htw⟩ | ⟨rfl, htw⟩ | ⟨rfl, htw⟩
            all_goals
              subst htw
              first | (exfalso; omega) | (go_wp2; go_ret; exact ⟨rfl, HBR.out⟩)
      · have hz9 : ¬ ((i : Int) < 500) := by omega
        have HBR := hid hA.below
        clear hA
        go_wp2
        go_ret
        exact ⟨rfl, HBR.out⟩
    · have hz : ¬ ((i : Int) < (n : Int)) := by omega
      have HBR := hid hA.below
      clear hA
      go_wp2
      go_ret
      exact ⟨rfl, HBR.out⟩
theorem softRight_any (rk : Int) (v : Value) (xs : Array (Int × Int)) (w : World) (hgl : Glob w) (h : Sl w v xs) : Calls Tryd.prog 3 #[.int .i64 rk, v] w fun e w' => e = .returned (.bool true) ∧ Below w.heap.size w w' := by
  obtain ⟨p, cap, rfl, hc, hp⟩ := id h
  by_cases h1 : rk < 0 ∨ 8 < rk
  · exact softRight_bad rk _ w h1
  · exact softRight_some rk.toNat rk p _ cap xs w hgl (by omega) (by omega) h
#print axioms softRight_any
end Go.Proofs.YtmgfinephghmaaaDoor
