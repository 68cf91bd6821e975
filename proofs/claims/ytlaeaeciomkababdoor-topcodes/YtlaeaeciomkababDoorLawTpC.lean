/-
  The law TopCodes, walked: from a text to bits and back.
-/
import Derived.Test.YtlaeaeciomkababDoorCoRu
import Derived.Test.YtlaeaeciomkababDoorTpM
import Derived.Test.YtlaeaeciomkababDoorTpP
import Derived.Test.YtlaeaeciomkababDoorTri
import Derived.Test.YtlaeaeciomkababDoorAppE
import Derived.Test.YtlaeaeciomkababDoorElB
namespace Go.Proofs.YtlaeaeciomkababDoor
open Go.RowKit Go.Sort Go.Proofs

theorem fact_a : runesS [97] = [97] := by decide +kernel
set_option maxHeartbeats 64000000 in
set_option maxRecDepth 20000 in
theorem topCodes_any (S : ByteArray) (w : World) (hU : Utf w) (hT : Tz w) :
    Calls Tryd.prog 4 #[.string S] w fun e w' => e = .returned (.bool true) ∧ Below w.heap.size w w' := by
  have c0 := runes_ok (T := ⟨#[97]⟩) (by decide) hU
  rw [show runesS (ByteArray.mk #[97]).data.toList = [97] from fact_a] at c0
  have C0 := hidp c0
  have HU := hidp hU
  have HTZ := hidp hT
  clear c0 hU hT
  by_cases hl : 60 < S.size
  · have HL := hidp (fun W => runes_long (w := W) hl)
    obtain ⟨a, ha⟩ : ∃ a, S.size = a := ⟨_, rfl⟩
    rw [ha] at hl
    clear HTZ
    go_enter Tryd.func4, Tryd.ntmps4
    go_wp2_with fail
    refine C0.out.mono ?_
    rintro e w1 ⟨u, rfl, hs1, hb1⟩
    obtain ⟨p1, c1, rfl, _⟩ := id hs1
    have CI := hidp (sameI_any (hs1.below ((Below.refl _ w1).alloc (Nat.le_refl _) (.cells #[.int .i64 97] 3))) (new_nums w1 [97] 3 1 1 rfl (Nat.le_refl _)) (by simp))
    simp only [decide_true] at CI
    have HB1 := hidp (hb1.alloc hb1.size (.cells #[.int .i64 97] 3))
    clear hs1 hb1 C0
    go_wp2_with fail
    refine CI.out.mono ?_
    rintro e w2 ⟨rfl, q, rfl⟩
    have HB2 := hidp (below_drewN HB1.out q)
    clear CI HB1
    go_wp2_with (first | (go_at_call 6; refine (HL.out _).mono ?_; rintro e w3 ⟨rfl, rfl⟩))
    go_ret
    exact ⟨rfl, HB2.out⟩
  have hl60 : S.size ≤ 60 := by omega
  have HR := hidp (fun W (q : Utf W) => runes_ok (w := W) hl60 q)
  have htx := text_runes S.data.toList.length (l := S.data.toList) (acc := []) (Nat.le_refl _) (by rw [← Lib.size_eq]; simpa using hl60)
  rw [List.nil_append] at htx
  have hrl := runes_len S.data.toList.length (l := S.data.toList) (Nat.le_refl _)
  rw [← Lib.size_eq] at hrl
  have HTX := hidp htx
  obtain ⟨R, hR⟩ : ∃ R, runesS S.data.toList = R := ⟨_, rfl⟩
  rw [hR] at HR HTX hrl
  obtain ⟨b, hb⟩ : ∃ b, R.length = b := ⟨_, rfl⟩
  rw [hb] at hrl
  have HRL := hidp hb
  have hb60 : b ≤ 60 := by omega
  clear hl htx hrl hR hb hl60
  go_enter Tryd.func4, Tryd.ntmps4
  go_wp2_with fail
  refine C0.out.mono ?_
  rintro e w1 ⟨u, rfl, hs1, hb1⟩
  obtain ⟨p1, c1, rfl, _⟩ := id hs1
  have CI := hidp (sameI_any (hs1.below ((Below.refl _ w1).alloc (Nat.le_refl _) (.cells #[.int .i64 97] 3))) (new_nums w1 [97] 3 1 1 rfl (Nat.le_refl _)) (by simp))
  simp only [decide_true] at CI
  have HB1 := hidp (hb1.alloc hb1.size (.cells #[.int .i64 97] 3))
  clear hs1 hb1 C0
  go_wp2_with fail
  refine CI.out.mono ?_
  rintro e w2 ⟨rfl, q, rfl⟩
  have HB2 := hidp (below_drewN HB1.out q)
  have CR := hidp (HR.out _ (HU.out.below HB2.out))
  clear CI HB1 HR
  go_wp2_with fail
  refine CR.out.mono ?_
  rintro e w3 ⟨u3, rfl, hs3, hb3⟩
  obtain ⟨p3, c3, rfl, _⟩ := id hs3
  have HB3 := hidp (HB2.out.trans (hb3.mono HB2.out.size))
  rw [HRL.out] at hs3 ⊢
  have HS3 := hidp hs3
  have HT1 : Hid (Tri w3 w3 (.slice none 0 0) (.slice none 0 0) (.slice none 0 0) [] (natI []) (natI [])) := Tri.begin w3
  have HI1 : Hid (TopI R 0 [] [] []) := TopI.begin R
  clear hs3 hb3 CR HB2
  go_wp2
  go_loopg [7, 8, 9, 10] b (fun gh v7 v8 v9 vi wr => ∃ (i n c7 c8 c9 : Nat) (p7 p8 p9 : Option Addr) (ns : List Int) (W K : List Nat), v7 = .slice p7 n c7 ∧ v8 = .slice p8 n c8 ∧ v9 = .slice p9 i c9 ∧ vi = .int .i64 i ∧ i + gh = b ∧ n ≤ i ∧ Hid (ns.length = n) ∧ Hid (TopI R i ns W K) ∧ Hid (Tri w3 wr (.slice p7 n c7) (.slice p8 n c8) (.slice p9 i c9) ns (natI W) (natI K)))
  case atStart => exact ⟨0, 0, 0, 0, 0, none, none, none, [], [], [], rfl, rfl, rfl, rfl, by omega, Nat.le_refl _, (show Hid _ from rfl), HI1, HT1⟩
  case round =>
    obtain ⟨i, n, c7, c8, c9, p7, p8, p9, ns, W, K, rfl, rfl, rfl, rfl, hg, hni, HN, HI, HT⟩ := hrel
    by_cases hlt : i < b
    · have hlz : (i : Int) < (b : Int) := by omega
      obtain ⟨x, hx⟩ : ∃ x, R[i]? = some x := ⟨_, List.getElem?_eq_getElem (by have := HRL.out; omega)⟩
      obtain ⟨b3, o3, rfl, _, _, hr3⟩ := (HS3.out.below HT.out.below).some (by omega)
      have cx := hr3.int hx
      have HX := hidp hx
      have CP := place_any (x := x) HT.out.a.sl (by have := HN.out; omega)
      have hkl : K.length = i := HI.out.kl
      have hwl : W.length = n := by rw [HI.out.wl, HN.out]
      have HKL := hidp hkl
      have HWL := hidp hwl
      clear hx hr3 hkl hwl
      by_cases hm : ns.idxOf x < ns.length
      · have hnm : ns[ns.idxOf x]? = some x := by rw [List.getElem?_eq_getElem hm, List.getElem_idxOf hm]
        obtain ⟨m, hme⟩ : ∃ m, ns.idxOf x = m := ⟨_, rfl⟩
        rw [hme] at CP hm hnm
        have hmn : m < n := by rw [← HN.out]; exact hm
        obtain ⟨a, ha⟩ : ∃ a, W[m]? = some a := ⟨_, List.getElem?_eq_getElem (by have := HWL.out; omega)⟩
        have ha60 : a ≤ 60 := by
          have h1 := le_sum (List.mem_of_getElem? ha)
          have h2 := HI.out.sum
          omega
        obtain ⟨g8, cp8, e8, hc8⟩ := HT.out.rot.cells (by rw [natI_len, HWL.out]; omega)
        simp only [Value.slice.injEq] at e8
        obtain ⟨rfl, hq8, rfl⟩ := e8
        clear hq8
        obtain ⟨cw, fw⟩ := hc8 m _ (natI_get ha)
        have hset : (natI W).set m ((a : Int) + 1) = natI (W.set m (a + 1)) := (natI_set W m (a + 1)).symm
        have T1 := (HT.out.rot.set hmn ((a : Int) + 1)).rot.rot
        rw [hset] at T1
        have HI2 := hidp (HI.out.old HX.out hnm ha)
        have hwa : wrap64 ((a : Int) + 1) = (a : Int) + 1 := by unfold wrap64; omega
        have HT2 := hidp T1
        have HOA : Hid (OwnE EZ ((wr.setCell ⟨g8, m, none⟩ (.int .i64 ((a : Int) + 1))).alloc (.cells #[.int .i64 (m : Int)] 3)) w3.heap.size (.slice p9 i c9) (natI K)) := T1.c.alloc _
        have hnew := box_one (wr.setCell ⟨g8, m, none⟩ (.int .i64 ((a : Int) + 1))) (m : Int)
        rw [size_setCell] at hnew
        have HNEW := hidp hnew
        clear hnew
        have HSZ : Hid ((natI K).length ≤ 100000) := by show _ ≤ _; rw [natI_len, HKL.out]; omega
        have HBS : Hid (w3.heap.size ≤ ((wr.setCell ⟨g8, m, none⟩ (.int .i64 ((a : Int) + 1))).alloc (.cells #[.int .i64 (m : Int)] 3)).heap.size) := by show _ ≤ _; have := T1.below.size; simp at this ⊢; omega
        have HBA : Hid (Below (wr.setCell ⟨g8, m, none⟩ (.int .i64 ((a : Int) + 1))).heap.size (wr.setCell ⟨g8, m, none⟩ (.int .i64 ((a : Int) + 1))) ((wr.setCell ⟨g8, m, none⟩ (.int .i64 ((a : Int) + 1))).alloc (.cells #[.int .i64 (m : Int)] 3))) := (Below.refl _ _).alloc (Nat.le_refl _) _
        have HCP := hidp CP
        have hmz : ((m : Int) == (n : Int)) = false := beq_eq_false_iff_ne.2 (by omega)
        have hm0 : (0 : Int) ≤ (m : Int) := by omega
        have hmnz : (m : Int) < (n : Int) := by omega
        clear CP hnm hme hm ha hc8 hset T1
        go_wp2_with (first | (go_at_call 9; refine HCP.out.mono ?_; rintro e w5 ⟨rfl, hw⟩; subst hw) | (at_builtin; refine wpList_appendE EZ rfl (.tmp 79) (.tmp 81) rfl w3.heap.size _ (natI K) (m : Int) ⟨wr.heap.size, 0, none⟩ 1 rfl HOA.out rfl HNEW.out HSZ.out HBS.out ?_; intro v9 w6 a1 a2 a3; have hg := (HT2.out.rot.rot.grow HBA.out a1 a2 a3).rot; obtain ⟨p9', k9, hv⟩ := OwnE.form a1; rw [List.length_append, List.length_singleton, natI_len, HKL.out] at hv; subst hv; have HT3 := hidp hg; clear hg a1 a2 a3))
        go_roundg (b - (i + 1))
        case measure => omega
        case rel => exact ⟨i + 1, n, c7, c8, k9, p7, _, p9', ns, W.set m (a + 1), K ++ [m], rfl, rfl, rfl, by go_num, by omega, by omega, HN, HI2, (show Hid _ from by rw [natI_append]; exact HT3.out)⟩
      · have hme : ns.idxOf x = ns.length := by
          have := List.idxOf_le_length (a := x) (l := ns)
          omega
        rw [hme, HN.out] at CP
        have HCP := hidp CP
        have HI2 := hidp (HI.out.new HX.out)
        rw [HN.out] at HI2
        have hnz : ((n : Int) == (n : Int)) = true := by simp
        have HOA1 := hidp (HT.out.a.alloc (.cells #[.int .i64 x] 3))
        have HNEW1 := hidp (box_one wr x)
        have HSZ1 : Hid (ns.length ≤ 100000) := by show _ ≤ _; rw [HN.out]; omega
        have HBS1 : Hid (w3.heap.size ≤ (wr.alloc (.cells #[.int .i64 x] 3)).heap.size) := by show _ ≤ _; have := HT.out.below.size; simp; omega
        have HBA1 : Hid (Below wr.heap.size wr (wr.alloc (.cells #[.int .i64 x] 3))) := (Below.refl _ wr).alloc (Nat.le_refl _) _
        have HSZ2 : Hid ((natI W).length ≤ 100000) := by show _ ≤ _; rw [natI_len, HWL.out]; omega
        have HSZ3 : Hid ((natI K).length ≤ 100000) := by show _ ≤ _; rw [natI_len, HKL.out]; omega
        have hn0 : (0 : Int) ≤ (n : Int) := by omega
        have hnn1 : (n : Int) < ((n + 1 : Nat) : Int) := by omega
        have hnn2 : (n : Int) < (n : Int) + 1 := by omega
        clear CP hme hm
        go_wp2_with (first
          | (go_at_call 9; refine HCP.out.mono ?_; rintro e w5 ⟨rfl, hw⟩; subst hw)
          | (at_builtin; refine wpList_appendE EZ rfl (.tmp 63) (.tmp 68) rfl w3.heap.size _ ns x ⟨wr.heap.size, 0, none⟩ 1 rfl HOA1.out rfl HNEW1.out HSZ1.out HBS1.out ?_; intro v7 w6 a1 a2 a3; have hg := HT.out.grow HBA1.out a1 a2 a3; obtain ⟨p7', k7, hv⟩ := OwnE.form a1; rw [List.length_append, List.length_singleton, HN.out] at hv; subst hv; have HT2 := hidp hg; have HOA2 : Hid (OwnE EZ (w6.alloc (.cells #[.int .i64 0] 3)) w3.heap.size (.slice p8 n c8) (natI W)) := hg.b.alloc _; have HNEW2 := hidp (box_one w6 0); have HBS2 : Hid (w3.heap.size ≤ (w6.alloc (.cells #[.int .i64 0] 3)).heap.size) := (by show _ ≤ _; have := hg.below.size; simp; omega); have HBA2 : Hid (Below w6.heap.size w6 (w6.alloc (.cells #[.int .i64 0] 3))) := (Below.refl _ w6).alloc (Nat.le_refl _) _; clear hg a1 a2 a3)
          | (at_builtin; refine wpList_appendE EZ rfl (.tmp 70) (.tmp 71) rfl w3.heap.size _ (natI W) 0 ⟨w6.heap.size, 0, none⟩ 1 rfl HOA2.out rfl HNEW2.out HSZ2.out HBS2.out ?_; intro v8 w7 a1 a2 a3; have hg := HT2.out.rot.grow HBA2.out a1 a2 a3; obtain ⟨g8, k8, hv, hc8⟩ := hg.cells (by simp); rw [List.length_append, List.length_singleton, natI_len, HWL.out] at hv; subst hv; obtain ⟨cw, fw⟩ := hc8 n 0 (by rw [List.getElem?_append_right (by rw [natI_len, HWL.out]; exact Nat.le_refl _), natI_len, HWL.out, Nat.sub_self]; rfl); have hst := (hg.set (i := n) (by omega) 1).rot.rot; have hsl := set_last W 1; rw [HWL.out] at hsl; rw [show ((1 : Nat) : Int) = 1 from rfl] at hsl; rw [hsl] at hst; have HT3 := hidp hst; have HOA3 : Hid (OwnE EZ ((w7.setCell ⟨g8, n, none⟩ (.int .i64 1)).alloc (.cells #[.int .i64 (n : Int)] 3)) w3.heap.size (.slice p9 i c9) (natI K)) := hst.c.alloc _; have hnew := box_one (w7.setCell ⟨g8, n, none⟩ (.int .i64 1)) (n : Int); rw [size_setCell] at hnew; have HNEW3 := hidp hnew; clear hnew; have HBS3 : Hid (w3.heap.size ≤ ((w7.setCell ⟨g8, n, none⟩ (.int .i64 1)).alloc (.cells #[.int .i64 (n : Int)] 3)).heap.size) := (by show _ ≤ _; have := hst.below.size; simp at this ⊢; omega); have HBA3 : Hid (Below (w7.setCell ⟨g8, n, none⟩ (.int .i64 1)).heap.size (w7.setCell ⟨g8, n, none⟩ (.int .i64 1)) ((w7.setCell ⟨g8, n, none⟩ (.int .i64 1)).alloc (.cells #[.int .i64 (n : Int)] 3))) := (Below.refl _ _).alloc (Nat.le_refl _) _; clear hg a1 a2 a3 hc8 hsl hst)
          | (at_builtin; refine wpList_appendE EZ rfl (.tmp 79) (.tmp 81) rfl w3.heap.size _ (natI K) (n : Int) ⟨w7.heap.size, 0, none⟩ 1 rfl HOA3.out rfl HNEW3.out HSZ3.out HBS3.out ?_; intro v9 w8 a1 a2 a3; have hg := (HT3.out.rot.rot.grow HBA3.out a1 a2 a3).rot; obtain ⟨p9', k9, hv⟩ := OwnE.form a1; rw [List.length_append, List.length_singleton, natI_len, HKL.out] at hv; subst hv; have HT4 := hidp hg; clear hg a1 a2 a3))
        go_roundg (b - (i + 1))
        case measure => omega
        case rel => exact ⟨i + 1, n + 1, k7, k8, k9, p7', _, p9', ns ++ [x], W ++ [1], K ++ [n], rfl, rfl, rfl, by go_num, by omega, by omega, (show Hid _ from by show _ = _; rw [List.length_append, HN.out]; rfl), HI2, (show Hid _ from by rw [natI_append K]; exact HT4.out)⟩
    · have hlz : ¬ (i : Int) < (b : Int) := by omega
      have hbi : b = i := by omega
      subst hbi
      have hwl : W.length = n := by rw [HI.out.wl, HN.out]
      have hkl : K.length = b := HI.out.kl
      have hsum : W.sum = b := HI.out.sum
      have HBW := hidp (HB3.out.trans (HT.out.below.mono HB3.out.size))
      by_cases hn2 : n < 2
      · have hd : decide ((n : Int) < 2) = true := decide_eq_true (by omega)
        have hz : (n : Int) < 2 := by omega
        clear hwl hkl hsum
        go_wp2
        go_ret
        exact ⟨rfl, HBW.out⟩
      have hd2 : decide ((n : Int) < 2) = false := decide_eq_false (by omega)
      have hz2 : ¬ (n : Int) < 2 := by omega
      by_cases hn40 : 40 < n
      · have hd : decide ((40 : Int) < (n : Int)) = true := decide_eq_true (by omega)
        have hz : (40 : Int) < (n : Int) := by omega
        clear hwl hkl hsum
        go_wp2
        go_ret
        exact ⟨rfl, HBW.out⟩
      have hd40 : decide ((40 : Int) < (n : Int)) = false := decide_eq_false (by omega)
      have hz40 : ¬ (40 : Int) < (n : Int) := by omega
      have tl : TopL W := TopL.of HI.out.pos (by omega) (by omega) (by omega)
      have HNs := hidp HT.out.a.sl
      have HWs := hidp HT.out.b.sl
      have HKs := hidp HT.out.c.sl
      have CL := lengths_ok HWs.out tl.wrong0
      rw [natI_len, natL_natI, hwl] at CL
      have HCL := hidp CL
      have HLl : Hid ((lensU W).length = n) := by show _ = _; rw [lensU_len, hwl]
      obtain ⟨N, hN⟩ : ∃ N, costW (wl W) = N := ⟨_, rfl⟩
      have hzw : zipI (natI W) (lensU W) = wl W := by have := zip_wl (natI W); rwa [natL_natI] at this
      have HCO : Hid (∀ (W0 : World) (vl : Value), SlE EZ W0 (.slice p8 n c8) (natI W) → SlE EZ W0 vl (lensU W) → Calls Tryd.prog 11 #[.slice p8 n c8, vl] W0 fun e w' => e = .returned (.tuple #[.int .i64 (N : Int), .nilIface]) ∧ w' = W0) := fun W0 vl q1 q2 => by
        have := cost_ok q1 q2 tl.wrong1
        rw [hzw, hN] at this
        exact this
      have hmem : ∀ k ∈ K, k < W.length := fun k hk => by
        obtain ⟨j, hj⟩ := List.getElem?_of_mem hk
        have := (HI.out.at_ j k hj).1
        have := HI.out.wl
        omega
      obtain ⟨L, hL⟩ : ∃ L, lensU W = L := ⟨_, rfl⟩
      have hwk := tl.wrong2
      have hsome := tl.some_
      have hlong := tl.long
      have heven := tl.even
      rw [hL] at hwk hsome hlong HCL HLl HCO
      have hcl : (codesI L).length = W.length := by rw [codesI_len, HLl.out, hwl]
      obtain ⟨cs, hcs⟩ : ∃ cs, codesI L = cs := ⟨_, rfl⟩
      have hfree := codesI_free hwk
      rw [hcs] at hsome hlong hcl hfree
      have hok : OkS cs (natI K) := fun s hs => by
        unfold natI at hs
        obtain ⟨k, hk, rfl⟩ := List.mem_map.1 hs
        have := hmem k hk
        refine ⟨by omega, by omega, ?_⟩
        rw [Int.toNat_natCast]
        exact hsome k this
      have hcat : (catB cs (natI K)).length = N := by rw [cat_len (f := lenU W) fun k hk => hlong k (hmem k hk), ← cost_is HI.out, hN]
      have hN6 : N ≤ 6 * b := by
        have := heven 6 (by decide) (Nat.le_trans (show W.length ≤ 64 by omega) (by decide))
        rw [hN, hsum] at this
        exact this
      have henc : encB cs (natI K) [] = (0, catB cs (natI K)) := by
        have := encB_of hok (acc := []) (by rw [List.nil_append, hcat]; omega)
        rwa [List.nil_append] at this
      obtain ⟨B, hBd, hBv⟩ : ∃ B : ByteArray, B.data.toList = catB cs (natI K) ∧ sV (catB cs (natI K)) = .string B := ⟨⟨(catB cs (natI K)).toArray⟩, by simp, rfl⟩
      have hBs : B.size = N := by rw [Lib.size_eq, hBd, hcat]
      have hkb : (natI K).length ≤ 9223372036854775807 := by rw [natI_len]; omega
      have HEN : Hid (∀ (W0 : World) (vl : Value), SlE EZ W0 vl L → SlE EZ W0 (.slice p9 b c9) (natI K) → Tz W0 → Calls Tryd.prog 12 #[vl, .slice p9 b c9] W0 fun e w' => e = .returned (.tuple #[.string B, .nilIface]) ∧ Below W0.heap.size W0 w') := fun W0 vl q1 q2 t => by
        have := encode_ok q1 q2 hkb hwk t
        rw [hcs, henc, show sV ((0, catB cs (natI K)) : Nat × List UInt8).2 = .string B from hBv, show errV ((0, catB cs (natI K)) : Nat × List UInt8).1 = .nilIface from rfl] at this
        exact this
      have hdec : decS cs B.data.toList = some (natI K) := by
        rw [hBd]
        have := dec_cat hfree (l := natI K) [] hok
        rw [List.append_nil, decS_nil] at this
        rw [this]; simp
      have HDE : Hid (∀ (W0 : World) (vl : Value), SlE EZ W0 vl L → Tz W0 → Calls Tryd.prog 13 #[vl, .string B] W0 fun e w' => (∃ u, e = .returned (.tuple #[u, .nilIface]) ∧ SlE EZ w' u (natI K)) ∧ Below W0.heap.size W0 w') := fun W0 vl q t => by
        have := decode_ok (T := B) q hwk t (by rw [hBs]; omega)
        rw [hcs, hdec] at this
        exact this
      have HEV : Hid (∀ e, e ≤ 40 → n ≤ 2 ^ e → N ≤ e * b) := fun e he hn => by
        have := heven e he (by rw [hwl]; exact hn)
        rw [hN, hsum] at this
        exact this
      have HAT : Hid (∀ (j k : Nat), K[j]? = some k → k < n ∧ ns[k]? = R[j]?) := fun j k hj => by
        have := HI.out.at_ j k hj
        rw [HN.out] at this
        exact this
      have HKI : Hid ((natI K).length = b) := by show _ = _; rw [natI_len, hkl]
      have HKB := hidp hkb
      have HKL := hidp hkl
      have hNN : ((N : Int) != (N : Int)) = false := by simp
      have hN360 : N ≤ 360 := by omega
      clear hwl hsum CL hN hzw hmem hwk hsome hlong heven hcl hcs hfree hok hcat hN6 henc hBd hBv hkb hdec hkl tl hL HT HI HT1 HI1
      go_wp2_with fail
      refine HCL.out.mono ?_
      rintro e w4 ⟨g4, c4, rfl, hc4, hr4, _, hb4⟩
      have HL4 := hidp (SlE.of_rd hr4 HLl.out hc4)
      have HB4 := hidp hb4
      clear hr4 hb4 HCL
      go_wp2_with fail
      refine (HCO.out _ _ (HWs.out.below HB4.out) HL4.out).mono ?_
      rintro e w5 ⟨rfl, hw⟩
      have hw2 := hw.symm
      subst hw2
      clear hw HCO
      go_wp2_with fail
      refine (HEN.out _ _ HL4.out (HKs.out.below HB4.out) (HTZ.out.below (HBW.out.trans (HB4.out.mono HBW.out.size)))).mono ?_
      rintro e w5 ⟨rfl, hb5⟩
      have HL5 := hidp (HL4.out.below hb5)
      have HB5 := hidp (HB4.out.trans (hb5.mono HB4.out.size))
      clear hb5 HEN HL4 HB4
      go_wp2
      go_loopg [18] 6 (fun g v wz => ∃ e : Nat, v = .int .i64 e ∧ 1 ≤ e ∧ e ≤ 6 ∧ e + g = 7 ∧ w5 = wz)
      case atStart => exact ⟨1, rfl, by omega, by omega, by omega, rfl⟩
      case round =>
        obtain ⟨e, rfl, he1, he6, heg, hw⟩ := hrel
        subst hw
        have he0 : (0 : Int) ≤ (e : Int) := Int.natCast_nonneg e
        have he64 : (e : Int) ≤ 64 := Int.ofNat_le.2 (Nat.le_trans he6 (by decide))
        obtain ⟨P, M, hsh, hwp, hmul, hwm, ⟨hlz2, he5⟩ | ⟨hlz2, hNM⟩⟩ := loop_even he6 (Nat.le_of_not_lt hn40) hb60 HEV.out
        · clear hmul hwm
          go_wp2
          clear hsh hwp hlz2
          go_roundg (6 - e)
          case measure => omega
          case rel => exact ⟨e + 1, by go_num, by omega, by omega, by omega, rfl⟩
        · go_wp2_with fail
          clear hsh hwp hlz2
          refine (HDE.out _ _ HL5.out (HTZ.out.below (HBW.out.trans (HB5.out.mono HBW.out.size)))).mono ?_
          rintro e6 w6 ⟨⟨u6, rfl, hs6⟩, hb6⟩
          obtain ⟨p6, c6, rfl, _⟩ := id hs6
          rw [HKI.out] at hs6 ⊢
          have HS6 := hidp hs6
          have HB6 := hidp (HB5.out.trans (hb6.mono HB5.out.size))
          have CI2 := hidp (sameI_any hs6 (HKs.out.below HB6.out) HKB.out)
          simp only [decide_true] at CI2
          clear hs6 hb6 HDE HL5 HB5
          go_wp2_with fail
          refine CI2.out.mono ?_
          rintro e7 w7 ⟨rfl, q7, rfl⟩
          have HB7 := hidp (below_drewN HB6.out q7)
          have HS7 := hidp (HS6.out.below (below_drewN (Below.refl _ w6) q7))
          clear CI2 HB6 HS6
          generalize w6.drewN q7 = w7 at HB7 HS7 ⊢
          have HO1 : Hid (OwnE EZ w7 w7.heap.size (.slice none 0 0) (R.take 0)) := OwnE.nil EZ w7 w7.heap.size
          have HBZ1 : Hid (Below w7.heap.size w7 w7) := Below.refl _ _
          have hNMd : decide (M < N) = false := decide_eq_false (Nat.not_lt.2 hNM)
          go_wp2
          all_goals try (exfalso; exact absurd (by assumption : M < N) (Nat.not_lt.2 hNM))
          rw [hwm]
          clear hwm hmul hNMd
          go_loopg [21, 22] b (fun g v21 v22 wz => ∃ (j c : Nat) (p : Option Addr), v21 = .slice p j c ∧ v22 = .int .i64 j ∧ j + g = b ∧ Hid (OwnE EZ wz w7.heap.size (.slice p j c) (R.take j)) ∧ Hid (Below w7.heap.size w7 wz))
          case atStart => exact ⟨0, 0, none, rfl, rfl, by omega, HO1, HBZ1⟩
          case round =>
            obtain ⟨j, c, p, rfl, rfl, hjg, HO, HBZ⟩ := hrel
            by_cases hj : j < b
            · have hjz : (j : Int) < (b : Int) := by omega
              obtain ⟨k, hk⟩ : ∃ k, K[j]? = some k := ⟨_, List.getElem?_eq_getElem (by have := HKL.out; omega)⟩
              obtain ⟨hkn, hky⟩ := HAT.out j k hk
              obtain ⟨y, hy⟩ : ∃ y, R[j]? = some y := ⟨_, List.getElem?_eq_getElem (by have := HRL.out; omega)⟩
              rw [hy] at hky
              obtain ⟨ba, oa, rfl, _, _, hra⟩ := (HS7.out.below HBZ.out).some (by omega)
              have ca := hra.int (natI_get hk)
              obtain ⟨bn, on, rfl, _, _, hrn⟩ := (HNs.out.below (HB7.out.trans (HBZ.out.mono HB7.out.size))).some (by omega)
              have cn := hrn.int hky
              have hk0 : (0 : Int) ≤ (k : Int) := by omega
              have hknz : (k : Int) < (n : Int) := by omega
              have htk : R.take (j + 1) = R.take j ++ [y] := by
                obtain ⟨h1, h2⟩ := List.getElem?_eq_some_iff.1 hy
                rw [List.take_succ_eq_append_getElem h1, h2]
              have htl : (R.take j).length = j := by rw [List.length_take]; have := HRL.out; omega
              have HTK := hidp htk
              have HTL := hidp htl
              have HOA := hidp (HO.out.alloc (.cells #[.int .i64 y] 3))
              have HNEW := hidp (box_one wr y)
              have HSZ : Hid ((R.take j).length ≤ 100000) := by show _ ≤ _; rw [htl]; omega
              have HBS : Hid (w7.heap.size ≤ (wr.alloc (.cells #[.int .i64 y] 3)).heap.size) := by show _ ≤ _; have := HBZ.out.size; simp; omega
              have HBA : Hid (Below w7.heap.size w7 (wr.alloc (.cells #[.int .i64 y] 3))) := HBZ.out.alloc HBZ.out.size _
              clear hk hky hy hra hrn htk htl
              go_wp2_with (first | (at_builtin; refine wpList_appendE EZ rfl (.tmp 159) (.tmp 167) rfl w7.heap.size _ (R.take j) y ⟨wr.heap.size, 0, none⟩ 1 rfl HOA.out rfl HNEW.out HSZ.out HBS.out ?_; intro v3 w9 a1 a2 a3; have hb3 := HBA.out.trans (below_ownE HOA.out a2 (Nat.le_refl _) HBS.out); obtain ⟨p9', k9, hv⟩ := OwnE.form a1; rw [List.length_append, List.length_singleton, HTL.out] at hv; subst hv; have HO3 := hidp a1; have HB9 := hidp hb3; clear hb3 a1 a2 a3))
              go_roundg (b - (j + 1))
              case measure => omega
              case rel => exact ⟨j + 1, k9, p9', rfl, by go_num, by omega, (show Hid _ from by rw [HTK.out]; exact HO3.out), HB9⟩
            · have hjz : ¬ (j : Int) < (b : Int) := by omega
              have hjb : b = j := by omega
              subst hjb
              have htr : R.take b = R := List.take_of_length_le (by rw [HRL.out]; exact Nat.le_refl _)
              rw [htr] at HO
              have CT := hidp (text_any HO.out.sl (by rw [HRL.out]; omega))
              rw [HTX.out, show sV ((0, S.data.toList) : Nat × List UInt8).2 = .string S from congrArg Value.string (bytes_ext (by simp)), show errV ((0, S.data.toList) : Nat × List UInt8).1 = .nilIface from rfl] at CT
              have HB8 := hidp (HBW.out.trans ((HB7.out.trans (HBZ.out.mono HB7.out.size)).mono HBW.out.size))
              clear htr
              go_wp2_with fail
              refine CT.out.mono ?_
              rintro e8 w8 ⟨rfl, hb8⟩
              have HB9 := hidp (HB8.out.trans (hb8.mono HB8.out.size))
              clear hb8 CT
              go_wp2
              go_ret
              exact ⟨rfl, HB9.out⟩
#print axioms topCodes_any
end Go.Proofs.YtlaeaeciomkababDoor
