/-
  The document's Merge, walked.
-/
import Derived.Test.YtlaeaeciomkababDoorRefR2
namespace Go.Proofs.YtlaeaeciomkababDoor
open Go.RowKit Go.Sort Go.Proofs

set_option maxHeartbeats 16000000 in
set_option maxRecDepth 100000 in
theorem refMerge_any (v : Value) (ls : List (List Int)) (w : World) (h : LLAt w v ls) (hsz : ls.length ≤ 9223372036854775807) (hls : ∀ (i : Nat) (l : List Int), ls[i]? = some l → (ls.take i).flatten.length ≤ 60 → l.length ≤ 9223372036854775807) :
    Calls Tryd.prog 19 #[v] w fun e w' => ∃ u zs, e = .returned (.tuple #[u, .int .i64 (wrongG ls)]) ∧ SlE EZ w' u zs ∧ DMgd ls zs ∧ Below w.heap.size w w' := by
  obtain ⟨p, cap, rfl⟩ := h.form
  obtain ⟨n, hn⟩ : ∃ n, ls.length = n := ⟨_, rfl⟩
  rw [hn] at h hsz ⊢
  have HL := hidp h
  have HN := hidp hn
  have HLS := hidp hls
  clear h hn hls
  go_enter Tryd.func19, Tryd.ntmps19
  go_wp2
  go_loopg [4, 5] n (fun g v4 v5 wr => ∃ (i m : Nat) (q : Option Addr) (c : Nat), v4 = .slice q m c ∧ v5 = .int .i64 i ∧ i + g = n ∧ m ≤ 60 ∧ Hid (m = (ls.take i).flatten.length) ∧ Hid (OwnE EZ wr w.heap.size (.slice q m c) (ls.take i).flatten) ∧ Hid (Below w.heap.size w wr))
  case atStart => exact ⟨0, 0, none, 0, rfl, rfl, by omega, by omega, (show Hid ((0 : Nat) = _) from (show (0 : Nat) = _ by simp)), (show Hid _ from OwnE.nil EZ w _), (show Hid _ from Below.refl _ _)⟩
  case round =>
    obtain ⟨i, m, q, c, rfl, rfl, hg, hm, HM, HO, HB⟩ := hrel
    by_cases hlt : i < n
    · have hlz : (i : Int) < (n : Int) := by omega
      obtain ⟨l, hl⟩ : ∃ l, ls[i]? = some l := ⟨_, List.getElem?_eq_getElem (by have := HN.out; omega)⟩
      obtain ⟨blk, off, ql, cl, rfl, hb, c0', hs⟩ := HL.out.row hl
      have c0 : wr.cell? ⟨blk, off + i, none⟩ = some (.slice ql l.length cl) := (HB.out.cell (p := ⟨blk, off + i, none⟩) hb).trans c0'
      have hll := HLS.out i l hl (by rw [← HM.out]; exact hm)
      have HLI := hidp hl
      have HS := hidp (hs.below HB.out)
      obtain ⟨k, hk⟩ : ∃ k, l.length = k := ⟨_, rfl⟩
      rw [hk] at c0 hll HS
      have HK := hidp hk
      have hwm : IntKind.i64.wrap ((60 : Int) - (m : Int)) = (60 : Int) - (m : Int) := by rw [IntKind.wrap_i64]; omega
      clear hl hs hk c0'
      by_cases hbig : 60 < m + k
      · have hz : (60 : Int) - (m : Int) < (k : Int) := by omega
        have HF : Hid (wrongG ls = 4) := by
          show _ = _
          refine wrongG_full (wrongLL_full ?_)
          have h1 := flat_take ls HLI.out
          have h2 := flat_le ls (i + 1)
          have := HM.out
          have := HK.out
          omega
        go_wp2
        go_ret2
        exact ⟨_, [], by rw [HF.out]; rfl, SlE.empty _ _ _, by unfold DMgd; rw [HF.out, if_neg (by omega)], HB.out⟩
      · have hz : ¬ (60 : Int) - (m : Int) < (k : Int) := by omega
        have HSZ : Hid ((ls.take i).flatten.length + l.length ≤ 1000000) := by show _ ≤ _; have := HM.out; have := HK.out; omega
        have HBS : Hid (w.heap.size ≤ wr.heap.size) := HB.out.size
        go_wp2_with (at_builtin; refine wpList_append_slE EZ rfl (.tmp 24) (.tmp 28) rfl w.heap.size _ _ (ls.take i).flatten l rfl rfl HO.out HS.out HSZ.out HBS.out ?_; intro v1 w1 a1 a2; have hb1 := below_ownE HO.out a2 (Nat.le_refl _) HBS.out; have HB1 := hidp (HB.out.trans hb1); have HO1 := hidp a1; clear a1 a2 hb1)
        go_roundg (n - (i + 1))
        case measure => omega
        case rel =>
          obtain ⟨q1, c1, rfl⟩ := HO1.out.form
          have e1 := flat_succ HLI.out
          have e2 : (ls.take (i + 1)).flatten.length = m + k := by
            rw [e1, List.length_append, HK.out, ← HM.out]
          rw [← e1, e2] at HO1
          exact ⟨i + 1, m + k, q1, c1, by rw [← e1, e2], by go_num, by omega, by omega, (show Hid _ from e2.symm), HO1, HB1⟩
    · obtain rfl : i = n := by omega
      have hlz : ¬ (i : Int) < (i : Int) := by omega
      have ht : ls.take i = ls := List.take_of_length_le (by rw [HN.out]; exact Nat.le_refl _)
      rw [ht] at HM HO
      have HW : Hid (wrongLL ls = wrongN ls.flatten) := wrongLL_flat ls
      have HNU := hidp (numbers_any _ ls.flatten wr HO.out.sl (by have := HM.out; omega))
      rw [← HW.out] at HNU
      have HIN := hidp (ints_all _ ls.flatten wr HO.out.sl (by have := HM.out; omega))
      have HSL := hidp HO.out.sl
      have HB0 := hidp HB.out
      clear HO HB ht
      by_cases hz : wrongLL ls = 0
      · rw [hz] at HNU
        have HZ := hidp hz
        clear HW hz
        go_wp2_with (go_at_call 14; refine HNU.out.mono ?_; rintro e w' ⟨rfl, rfl⟩)
        go_loopg [6, 7] i (fun g v6 v7 wr => ∃ (k e : Nat), v6 = .int .i64 e ∧ v7 = .int .i64 k ∧ k + g = i ∧ Hid (e = ec ((ls.take k).all upB)) ∧ Hid (∃ q, wr = w'.drewN q))
        case atStart => exact ⟨0, 0, rfl, rfl, by omega, (show Hid ((0 : Nat) = _) from (show (0 : Nat) = _ by simp [ec])), (show Hid _ from ⟨0, rfl⟩)⟩
        case round =>
          obtain ⟨k, e, rfl, rfl, hkg, HE, HWR⟩ := hrel
          by_cases hall : (ls.take k).all upB = true
          · rw [hall] at HE
            obtain rfl : e = 0 := HE.out
            by_cases hki : k < i
            · have hkz : (k : Int) < (i : Int) := by omega
              obtain ⟨l, hl⟩ : ∃ l, ls[k]? = some l := ⟨_, List.getElem?_eq_getElem (by have := HN.out; omega)⟩
              obtain ⟨blk, off, ql, cl, rfl, hb, c0', hs'⟩ := HL.out.row hl
              have C0 := hidp ((HB0.out.cell (p := ⟨blk, off + k, none⟩) hb).trans c0')
              have HS := hidp (hs'.below HB0.out)
              have HLI := hidp hl
              have HALL := hidp hall
              obtain ⟨kl, hkl⟩ : ∃ kl, l.length = kl := ⟨_, rfl⟩
              have hk60 : kl ≤ 60 := by
                have h1 := flat_take ls hl
                have h2 := flat_le ls (k + 1)
                have := HM.out
                omega
              have HK := hidp hkl
              rw [hkl] at C0 HS
              clear hl hs' c0' hkl hall
              have c0k : wr.cell? ⟨blk, off + k, none⟩ = some (.slice ql kl cl) := by obtain ⟨q, hq⟩ := HWR.out; rw [hq]; exact C0.out
              go_wp2_with fail
              go_loopg [6, 8] kl (fun g v6 v8 wr => ∃ (j e : Nat), v6 = .int .i64 e ∧ v8 = .int .i64 ((j : Int) + 1) ∧ j + g = kl ∧ Hid (e = ec (upB (l.take (j + 1)))) ∧ Hid (∃ q, wr = w'.drewN q))
              case atStart => exact ⟨0, 0, rfl, rfl, by omega, (show Hid ((0 : Nat) = _) from (show (0 : Nat) = _ by rw [upB_none]; rfl)), HWR⟩
              case round =>
                obtain ⟨j, e, rfl, rfl, hjg, HE2, HW2⟩ := hrel
                have c0w : wr.cell? ⟨blk, off + k, none⟩ = some (.slice ql kl cl) := by obtain ⟨q, hq⟩ := HW2.out; rw [hq]; exact C0.out
                by_cases hjk : j + 1 < kl
                · have hjz : (j : Int) + 1 < (kl : Int) := by omega
                  have hjz2 : (j : Int) < (kl : Int) := by omega
                  have hj1 : (0 : Int) ≤ (j : Int) + 1 := by omega
                  have ht : ((j : Int) + 1).toNat = j + 1 := by omega
                  have hwk : IntKind.i64.wrap ((j : Int) + 1 - 1) = (j : Int) := by rw [IntKind.wrap_i64]; omega
                  have hwk' : IntKind.i64.wrap (j : Int) = (j : Int) := by rw [IntKind.wrap_i64]; omega
                  obtain ⟨bl, ol, rfl, _, _, hr⟩ := HS.out.some (by omega)
                  obtain ⟨x, hx⟩ : ∃ x, l[j]? = some x := ⟨_, List.getElem?_eq_getElem (by have := HK.out; omega)⟩
                  obtain ⟨y, hy⟩ : ∃ y, l[j + 1]? = some y := ⟨_, List.getElem?_eq_getElem (by have := HK.out; omega)⟩
                  have c1 : wr.cell? ⟨bl, ol + j, none⟩ = some (.int .i64 x) := by obtain ⟨q, hq⟩ := HW2.out; rw [hq]; exact hr.int hx
                  have c2 : wr.cell? ⟨bl, ol + (j + 1), none⟩ = some (.int .i64 y) := by obtain ⟨q, hq⟩ := HW2.out; rw [hq]; exact hr.int hy
                  have HU : Hid (upB (l.take (j + 2)) = (upB (l.take (j + 1)) && !decide (y < x))) := upB_take hx hy
                  have hwj : IntKind.i64.wrap ((j : Int) + 1 + 1) = (j : Int) + 1 + 1 := by rw [IntKind.wrap_i64]; omega
                  clear hx hy hr
                  by_cases hyx : y < x
                  · have HY : Hid (decide (y < x) = true) := decide_eq_true hyx
                    go_wp2_with fail
                    go_quiet (fail)
                    go_wp2
                    go_roundg (kl - (j + 1))
                    case measure => omega
                    case rel => exact ⟨j + 1, 3, rfl, by go_num, by omega, (show Hid (_ = _) from (show _ = _ by rw [HU.out, HY.out, Bool.not_true, Bool.and_false]; rfl)), (show Hid _ from (by obtain ⟨q, hq⟩ := HW2.out; exact ⟨_, by rw [hq, World.drewN_drewN]⟩))⟩
                  · have HY : Hid (decide (y < x) = false) := decide_eq_false hyx
                    go_wp2_with fail
                    go_quiet (fail)
                    go_wp2
                    go_roundg (kl - (j + 1))
                    case measure => omega
                    case rel => exact ⟨j + 1, e, rfl, by go_num, by omega, (show Hid (_ = _) from (show _ = _ by rw [HU.out, HY.out, Bool.not_false, Bool.and_true]; exact HE2.out)), (show Hid _ from (by obtain ⟨q, hq⟩ := HW2.out; exact ⟨_, by rw [hq, World.drewN_drewN]⟩))⟩
                · have hjz : ¬ (j : Int) + 1 < (kl : Int) := by omega
                  have HT : Hid (l.take (j + 1) = l) := List.take_of_length_le (by have := HK.out; omega)
                  go_wp2
                  go_roundg (i - (k + 1))
                  case measure => omega
                  case rel => exact ⟨k + 1, e, rfl, by go_num, by omega, (show Hid (_ = _) from (show _ = _ by rw [all_take HLI.out, HALL.out, Bool.true_and, ← HT.out]; exact HE2.out)), HW2⟩
            · have hkz : ¬ (k : Int) < (i : Int) := by omega
              obtain ⟨q, hq⟩ := HWR.out
              have HF : Hid (wrongG ls = 0) := by
                show _ = _
                rw [List.take_of_length_le (by have := HN.out; omega)] at hall
                unfold wrongG
                rw [if_pos HZ.out, if_pos hall]
              have hin2 := ints_all _ ls.flatten wr (by rw [hq]; exact HSL.out) (by have := HM.out; omega)
              have HI2 := hidp hin2
              have HQ : Hid (wr = w'.drewN q) := hq
              clear hin2 hq HIN
              go_wp2_with (go_at_call 33; refine HI2.out.mono ?_; rintro e2 w2 ⟨u, zs, rfl, hs2, hso, hb2⟩; have HS2 := hidp hs2; have HSO := hidp hso; have HB2 := hidp hb2; clear hs2 hso hb2)
              go_ret2
              refine ⟨_, zs, by rw [HF.out]; rfl, HS2.out, by unfold DMgd; rw [if_pos HF.out]; exact HSO.out, ?_⟩
              have h1 := HB2.out
              rw [HQ.out] at h1
              exact below_drewN HB0.out q |>.trans (h1.mono HB0.out.size)
          · have hal : (ls.take k).all upB = false := by simpa using hall
            rw [hal] at HE
            obtain rfl : e = 3 := HE.out
            obtain ⟨q, hq⟩ := HWR.out
            have HF : Hid (wrongG ls = 3) := by
              show _ = _
              unfold wrongG
              rw [if_pos HZ.out, if_neg]
              intro q
              exact hall (List.all_eq_true.2 fun x hx => List.all_eq_true.1 q x (List.mem_of_mem_take hx))
            have HQ : Hid (wr = w'.drewN q) := hq
            have h0 : 0 < k := by
              rcases Nat.eq_zero_or_pos k with z | z
              · rw [z] at hall; exact absurd (by simp) hall
              · exact z
            clear hq HIN hal hall
            by_cases hki : k < i
            · have hkz : (k : Int) < (i : Int) := by omega
              go_wp2
              go_ret2
              first | exact ⟨_, [], by rw [HF.out]; rfl, SlE.empty _ _ _, by unfold DMgd; rw [HF.out, if_neg (by omega)], by rw [HQ.out]; exact below_drewN HB0.out q⟩ | exact ⟨_, by rw [HF.out]; rfl, [], SlE.empty _ _ _, by unfold DMgd; rw [HF.out, if_neg (by omega)], by rw [HQ.out]; exact below_drewN HB0.out q⟩
            · have hkz : ¬ (k : Int) < (i : Int) := by omega
              go_wp2
              go_ret2
              first | exact ⟨_, [], by rw [HF.out]; rfl, SlE.empty _ _ _, by unfold DMgd; rw [HF.out, if_neg (by omega)], by rw [HQ.out]; exact below_drewN HB0.out q⟩ | exact ⟨_, by rw [HF.out]; rfl, [], SlE.empty _ _ _, by unfold DMgd; rw [HF.out, if_neg (by omega)], by rw [HQ.out]; exact below_drewN HB0.out q⟩
      · have hgl : wrongG ls = wrongLL ls := by unfold wrongG; rw [if_neg hz]
        have HF : Hid (((wrongG ls : Nat) : Int) = ((wrongLL ls : Nat) : Int)) := by show _ = _; rw [hgl]
        have hzf : (((wrongLL ls : Nat) : Int) == (0 : Int)) = false := beq_eq_false_iff_ne.2 (by omega)
        have hzn : (((wrongLL ls : Nat) : Int) != (0 : Int)) = true := bne_iff_ne.2 (by omega)
        have HM0 : Hid (DMgd ls []) := by show DMgd _ _; unfold DMgd; rw [if_neg (by rw [hgl]; exact hz)]
        have hiz : (0 : Int) < (i : Int) := by
          rcases Nat.eq_zero_or_pos i with h0 | h0
          · have e0 : ls = [] := List.eq_nil_of_length_eq_zero (by rw [HN.out]; exact h0)
            exact absurd (by rw [e0]; rfl) hz
          · omega
        clear HW HIN hgl
        generalize ((wrongLL ls : Nat) : Int) = z at HF HNU hzf hzn
        have hz0 : z ≠ 0 := bne_iff_ne.1 hzn
        clear hz
        go_wp2_with (go_at_call 14; refine HNU.out.mono ?_; rintro e w' ⟨rfl, rfl⟩)
        go_loopg [6, 7] 0 (fun g v6 v7 wr => v6 = .int .i64 z ∧ v7 = .int .i64 0 ∧ w' = wr)
        case atStart => exact ⟨rfl, rfl, rfl⟩
        case round =>
          obtain ⟨rfl, rfl, hw⟩ := hrel
          subst hw
          go_wp2
          go_ret2
          exact ⟨.slice none 0 0, [], by rw [HF.out]; rfl, SlE.empty _ _ _, HM0.out, HB0.out⟩
#print axioms refMerge_any
end Go.Proofs.YtlaeaeciomkababDoor
