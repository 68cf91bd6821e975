/-
  The document's symbols of bits (Decode).
-/
import Derived.Test.YtlaeaeciomkabaaDoorRefK1
import Derived.Test.YtlaeaeciomkabaaDoorRefK3
import Derived.Test.YtlaeaeciomkabaaDoorOwn
import Derived.BigQuiet
namespace Go.Proofs.YtlaeaeciomkabaaDoor
open Go.RowKit Go.Sort Go.Proofs

set_option maxHeartbeats 4000000 in
theorem refDecode_bad {w : World} {v : Value} {l : List Int} {T : ByteArray} (h : SlE EZ w v l) (hbig : l.length ≤ 9223372036854775807) (h0 : wrongK l ≠ 0) :
    Calls Tryd.prog 16 #[v, .string T] w fun e w' => e = .returned (.tuple #[.slice none 0 0, .int .i64 (wrongK l : Nat)]) ∧ Below w.heap.size w w' := by
  have C := refLong_any h hbig
  obtain ⟨k, hk⟩ : ∃ k, wrongK l = k := ⟨_, rfl⟩
  rw [hk] at C h0 ⊢
  have HC := hidp C
  have hz : ((k : Int) != 0) = true := by simp; omega
  have hz2 : ((k : Int) == 0) = false := beq_eq_false_iff_ne.2 (by omega)
  clear h hbig h0 hk C
  go_enter Tryd.func16, Tryd.ntmps16
  go_wp2_with (go_at_call 9; refine HC.out.mono ?_; rintro e w' ⟨rfl, hb⟩; have HB := hidp hb; clear hb)
  go_ret2
  exact ⟨rfl, HB.out⟩
set_option maxHeartbeats 4000000 in
theorem refDecode_long {w : World} {v : Value} {l : List Int} {T : ByteArray} (h : SlE EZ w v l) (h0 : wrongK l = 0) (hl : 400 < T.size) :
    Calls Tryd.prog 16 #[v, .string T] w fun e w' => e = .returned (.tuple #[.slice none 0 0, .int .i64 4]) ∧ Below w.heap.size w w' := by
  have C := refLong_any h (by have := (wrongK_zero h0).1; omega)
  rw [h0] at C
  have HC := hidp C
  obtain ⟨a, ha⟩ : ∃ a, T.size = a := ⟨_, rfl⟩
  have haz : (400 : Int) < (a : Int) := by omega
  clear h h0 C hl
  go_enter Tryd.func16, Tryd.ntmps16
  go_wp2_with (go_at_call 9; refine HC.out.mono ?_; rintro e w' ⟨rfl, hb⟩; have HB := hidp hb; clear hb)
  go_ret2
  exact ⟨rfl, HB.out⟩
theorem test_nil (t : List UInt8) : testB t [] = false := rfl
theorem test_far {t c : List UInt8} (h : t.length < c.length) : testB t c = false := by
  unfold testB
  have : c.isPrefixOf t = false := by
    cases e : c.isPrefixOf t
    · rfl
    · have := (List.isPrefixOf_iff_prefix.1 e).length_le; omega
  rw [this, Bool.and_false]
theorem test_take {t c : List UInt8} (h0 : c ≠ []) : testB t c = decide (t.take c.length = c) := by
  unfold testB
  rw [decide_eq_true h0, Bool.true_and]
  by_cases e : t.take c.length = c
  · rw [decide_eq_true e]
    exact List.isPrefixOf_iff_prefix.2 (List.prefix_iff_eq_take.2 e.symm)
  · rw [decide_eq_false e]
    cases q : c.isPrefixOf t
    · rfl
    · exact absurd (List.prefix_iff_eq_take.1 (List.isPrefixOf_iff_prefix.1 q)).symm e
theorem bytes_beq (a b : ByteArray) : (a.toList == b.toList) = decide (a.data.toList = b.data.toList) := by
  rw [Lib.toList_data, Lib.toList_data]
  by_cases e : a.data.toList = b.data.toList
  · rw [decide_eq_true e, e]; simp
  · rw [decide_eq_false e]
    exact beq_eq_false_iff_ne.2 e
/-- What Decode tells: a number, and none. -/
def DecD (e : Ending) (w' : World) (r : Option (List Int)) : Prop := match r with
  | none => e = .returned (.tuple #[.slice none 0 0, .int .i64 2])
  | some a => ∃ u, e = .returned (.tuple #[u, .int .i64 0]) ∧ SlE EZ w' u a
set_option maxHeartbeats 32000000 in
set_option maxRecDepth 20000 in
theorem refDecode_ok {w : World} {v : Value} {l : List Int} {T : ByteArray} (h : SlE EZ w v l) (h0 : wrongK l = 0) (hl : T.size ≤ 400) :
    Calls Tryd.prog 16 #[v, .string T] w fun e w' => DecD e w' (decS (codesI l) T.data.toList) ∧ Below w.heap.size w w' := by
  obtain ⟨p, cap, rfl, _⟩ := id h
  obtain ⟨n, hn⟩ : ∃ n, l.length = n := ⟨_, rfl⟩
  have hn40 : n ≤ 40 := by have := (wrongK_zero h0).1; omega
  have C0 := refLong_any h (by omega)
  rw [h0] at C0
  have HC := hidp C0
  have HCO := hidp (fun W (q : SlE EZ W (.slice p l.length cap) l) => refCodes_any q h0)
  rw [hn] at HC HCO h ⊢
  have HV := hidp h
  have hcl : (codesI l).length = n := by rw [codesI_len, hn]
  obtain ⟨cs, hcs⟩ : ∃ cs, codesI l = cs := ⟨_, rfl⟩
  rw [hcs] at HCO hcl
  rw [hcs]
  obtain ⟨a, ha⟩ : ∃ a, T.size = a := ⟨_, rfl⟩
  have haz : ¬ (400 : Int) < (a : Int) := by omega
  have HCL := hidp hcl
  have ha4 : a ≤ 400 := by omega
  have HA := hidp ha
  obtain ⟨R, hR⟩ : ∃ R, decS cs T.data.toList = R := ⟨_, rfl⟩
  rw [hR]
  have HR0 : Hid (R = (decS cs T.data.toList).map (([] : List Int) ++ ·)) := by show _ = _; rw [hR]; cases R <;> rfl
  have hz00 : ((0 : Int) != 0) = false := rfl
  have hz01 : ((0 : Int) == 0) = true := rfl
  clear h hn h0 hcs hcl hl hR C0
  go_enter Tryd.func16, Tryd.ntmps16
  go_wp2_with (first | (go_at_call 9; refine HC.out.mono ?_; rintro e w0 ⟨rfl, hb⟩; have HB0 := hidp hb; have HV0 := hidp (HV.out.below hb); clear hb) | (go_at_call 10; refine (HCO.out _ HV0.out).mono ?_; rintro e w1 ⟨g, rfl, hs, hb⟩; have HS := hidp hs; have HB := hidp (HB0.out.trans (hb.mono HB0.out.size)); clear hs hb))
  clear HV0 HB0 HC HCO
  have HO1 : Hid (OwnE EZ w1 w1.heap.size (.slice none 0 0) []) := OwnE.nil EZ w1 w1.heap.size
  have HB1 : Hid (Below w1.heap.size w1 w1) := Below.refl _ _
  go_loopg [1, 8] a (fun gh v1 v8 wr => ∃ (T : ByteArray) (r : Nat) (acc : List Int) (p8 : Option Addr) (k8 c8 : Nat), v1 = .string T ∧ v8 = .slice p8 k8 c8 ∧ T.size = r ∧ r ≤ gh ∧ r + k8 ≤ 400 ∧ Hid (k8 = acc.length) ∧ Hid (R = (decS cs T.data.toList).map (acc ++ ·)) ∧ Hid (OwnE EZ wr w1.heap.size (.slice p8 k8 c8) acc) ∧ Hid (Below w1.heap.size w1 wr))
  case atStart => exact ⟨T, a, [], none, 0, 0, rfl, rfl, HA.out, Nat.le_refl _, by omega, (show Hid _ from rfl), HR0, HO1, HB1⟩
  case round =>
    obtain ⟨T, r, acc, p8, k8, c8, rfl, rfl, hTr, hr, hrk, HK, HR, HO, HBW⟩ := hrel
    by_cases h0 : r = 0
    · have hnil : T.data.toList = [] := List.eq_nil_of_length_eq_zero (by rw [← Lib.size_eq, hTr, h0])
      have HF : Hid (R = some acc) := by
        show _ = _
        rw [HR.out, hnil, decS_nil]
        simp
      subst h0
      clear hnil
      go_wp2
      go_ret2
      rw [HF.out]
      exact ⟨⟨_, rfl, HO.out.sl⟩, HB.out.trans (HBW.out.mono HB.out.size)⟩
    · have hne : T.data.toList ≠ [] := fun e => h0 (by rw [← hTr, Lib.size_eq, e]; rfl)
      have HNE := hidp hne
      have hrz : (0 : Int) < (r : Int) := by omega
      have HTL : Hid (T.data.toList.length = r) := by show _ = _; rw [← Lib.size_eq, hTr]
      have HTR := hidp hTr
      clear hne
      obtain ⟨G1, hG1⟩ : ∃ G1, G1 = gk := ⟨_, rfl⟩
      subst hG1
      go_wp2
      go_loopg [9] n (fun gi v9 wr => ∃ i : Nat, v9 = .int .i64 i ∧ i + gi = n ∧ Hid (OwnE EZ wr w1.heap.size (.slice p8 k8 c8) acc) ∧ Hid (Below w1.heap.size w1 wr) ∧ Hid (∀ (j : Nat) (c : List UInt8), j < i → cs[j]? = some c → testB T.data.toList c = false))
      case atStart => exact ⟨0, rfl, by omega, HO, HBW, (show Hid _ from fun j c hj => by omega)⟩
      case round =>
        obtain ⟨i, rfl, hgi, HO, HBW, HT⟩ := hrel
        by_cases hlt : i < n
        · have hlz : (i : Int) < (n : Int) := by omega
          obtain ⟨c, hc⟩ : ∃ c, cs[i]? = some c := ⟨_, List.getElem?_eq_getElem (by have := HCL.out; omega)⟩
          obtain ⟨b1, o1, eg, _, _, hr1⟩ := (HS.out.below HBW.out).some (by omega)
          simp only [Option.some.injEq, Addr.mk.injEq] at eg
          obtain ⟨rfl, rfl, _⟩ := eg
          obtain ⟨S, hS, c1⟩ := hr1.strB hc
          rw [Nat.zero_add] at c1
          obtain ⟨b, hb⟩ : ∃ b, c.length = b := ⟨_, rfl⟩
          have hSs : S.size = b := by rw [Lib.size_eq, hS, hb]
          have HX := hidp hc
          have HSD := hidp hS
          have HBL := hidp hb
          have more : testB T.data.toList c = false → Hid (∀ (j : Nat) (y : List UInt8), j < i + 1 → cs[j]? = some y → testB T.data.toList y = false) := fun e j y hj hy => by
            rcases Nat.lt_or_ge j i with z | z
            · exact HT.out j y z hy
            · obtain rfl : j = i := by omega
              rw [HX.out] at hy; cases hy; exact e
          have MORE := hidp more
          clear hc hr1 more hS hb
          by_cases hb0 : b = 0
          · have hcn : c = [] := List.eq_nil_of_length_eq_zero (by rw [HBL.out, hb0])
            have HM := MORE.out (by rw [hcn]; exact test_nil _)
            subst hb0
            clear hcn
            go_wp2_with fail
            go_quiet (fail)
            go_wp2
            go_roundg (n - (i + 1))
            case measure => omega
            case rel => exact ⟨i + 1, by go_num, by omega, (show Hid _ from HO.out.drewN nq), (show Hid _ from below_drewN HBW.out nq), HM⟩
          have hbz : ((b : Int) == 0) = false := beq_eq_false_iff_ne.2 (by omega)
          have hbz2 : ¬ (b : Int) = 0 := by omega
          by_cases hbr : r < b
          · have hrz2 : (r : Int) < (b : Int) := by omega
            have HM := MORE.out (test_far (by rw [HTL.out, HBL.out]; exact hbr))
            go_wp2_with fail
            go_quiet (fail)
            go_wp2
            go_roundg (n - (i + 1))
            case measure => omega
            case rel => exact ⟨i + 1, by go_num, by omega, (show Hid _ from HO.out.drewN nq), (show Hid _ from below_drewN HBW.out nq), HM⟩
          have hrd : decide ((r : Int) < (b : Int)) = false := decide_eq_false (by omega)
          have hbr2 : (b : Int) ≤ (r : Int) := by omega
          have htt : testB T.data.toList c = decide ((T.extract 0 b).data.toList = S.data.toList) := by
            rw [test_take (fun q => hb0 (by rw [← HBL.out, q]; rfl)), extract_head, HSD.out, HBL.out]
          have hbe : ((T.extract 0 b).toList == S.toList) = testB T.data.toList c := by rw [bytes_beq, htt]
          have hbn : ((T.extract 0 b).toList != S.toList) = !testB T.data.toList c := by rw [bne, hbe]
          by_cases ht : testB T.data.toList c = true
          · rw [ht] at hbe hbn
            have HTT := hidp ht
            clear htt ht
            have HF := hidp (decS_more (acc := acc) HNE.out (begins_is_some HX.out HTT.out HT.out))
            have hcd : cs.getD i [] = c := by rw [List.getD_eq_getElem?_getD, HX.out]; rfl
            rw [hcd, HBL.out] at HF
            have hinz : ((i : Int) == (n : Int)) = false := beq_eq_false_iff_ne.2 (by omega)
            clear hcd
            go_wp2_with fail
            go_quiet (fail)
            have HO5 : Hid (OwnE EZ (wr.drewN nq) w1.heap.size (.slice p8 k8 c8) acc) := HO.out.drewN nq
            have HB5 := hidp (below_drewN HBW.out nq)
            generalize wr.drewN nq = wq at HO5 HB5 ⊢
            have HOA := hidp (HO5.out.alloc (.cells #[.int .i64 i] 3))
            have HNEW := hidp (box_one wq (i : Int))
            have HSZ : Hid (acc.length ≤ 100000) := by show _ ≤ _; rw [← HK.out]; omega
            have HBS : Hid (w1.heap.size ≤ (wq.alloc (.cells #[.int .i64 i] 3)).heap.size) := by show _ ≤ _; have := HB5.out.size; simp; omega
            have HBA : Hid (Below w1.heap.size w1 (wq.alloc (.cells #[.int .i64 i] 3))) := HB5.out.alloc HB5.out.size _
            clear c1
            go_wp2_with (first | (at_builtin; refine wpList_appendE EZ rfl (.tmp 69) (.tmp 71) rfl w1.heap.size _ acc (i : Int) ⟨wq.heap.size, 0, none⟩ 1 rfl HOA.out rfl HNEW.out HSZ.out HBS.out ?_; intro v2 w3 a1 a2 a3; have hb3 := HBA.out.trans (below_ownE HOA.out a2 (Nat.le_refl _) HBS.out); obtain ⟨p9, k9, hv⟩ := OwnE.form a1; rw [List.length_append, List.length_singleton, ← HK.out] at hv; subst hv; have HO3 := hidp a1; have HB3 := hidp hb3; obtain ⟨gg, oo, eg, _, _, hr3⟩ := (HS.out.below hb3).some (by omega); simp only [Option.some.injEq, Addr.mk.injEq] at eg; obtain ⟨rfl, rfl, -⟩ := eg; obtain ⟨S3, hS3, c3⟩ := hr3.strB HX.out; rw [Nat.zero_add] at c3; have hSb : S3.size = b := (by rw [Lib.size_eq, hS3]; exact HBL.out); clear hS3 hr3 hb3 a1 a2 a3))
            go_roundg (G1 - 1)
            case measure => omega
            case rel =>
              have hex : (T.extract b r).data.toList = T.data.toList.drop b := extract_tail HTR.out
              refine ⟨T.extract b r, r - b, acc ++ [(i : Int)], p9, k8 + 1, k9, rfl, rfl, ?_, by omega, by omega, (show Hid _ from by show _ = _; rw [List.length_append, ← HK.out]; rfl), (show Hid _ from by rw [hex]; exact HR.out.trans HF.out), HO3, HB3⟩
              rw [Lib.size_eq, hex, List.length_drop, HTL.out]
          · have htf : testB T.data.toList c = false := by simpa using ht
            rw [htf] at hbe hbn
            have HM := MORE.out htf
            clear htt ht htf
            go_wp2_with fail
            go_quiet (fail)
            go_wp2
            go_roundg (n - (i + 1))
            case measure => omega
            case rel => exact ⟨i + 1, by go_num, by omega, (show Hid _ from HO.out.drewN nq), (show Hid _ from below_drewN HBW.out nq), HM⟩
        · have hld : decide ((i : Int) < (n : Int)) = false := decide_eq_false (by omega)
          obtain rfl : i = n := by omega
          have HF : Hid (R = none) := by
            show _ = _
            rw [HR.out, decS_none_of HNE.out (begins_is_none fun j c hj => HT.out j c (by have := HCL.out; have := (List.getElem?_eq_some_iff.1 hj).1; omega) hj)]
          go_wp2_with fail
          go_quiet (fail)
          go_wp2
          go_ret2
          rw [HF.out]
          exact ⟨rfl, HB.out.trans ((below_drewN HBW.out nq).mono HB.out.size)⟩
#print axioms refDecode_ok
end Go.Proofs.YtlaeaeciomkabaaDoor
