/-
  The law CodeFree, walked: none begins another one.
-/
import Derived.Test.YtlaeaeciomkabaaDoorCoFact
namespace Go.Proofs.YtlaeaeciomkabaaDoor
open Go.RowKit Go.Sort Go.Proofs

set_option maxHeartbeats 16000000 in
set_option maxRecDepth 20000 in
theorem codeFree_any (v : Value) (l : List Int) (w : World) (h : SlE EZ w v l) (hbig : l.length ≤ 9223372036854775807) (hT : Tz w) :
    Calls Tryd.prog 4 #[v] w fun e w' => e = .returned (.bool true) ∧ Below w.heap.size w w' := by
  obtain ⟨p, cap, rfl, _⟩ := id h
  have C0 := hidp (codeFact_any w hT)
  obtain ⟨n, hn⟩ : ∃ n, l.length = n := ⟨_, rfl⟩
  rw [hn] at h ⊢
  have HX := hidp h
  have HT := hidp hT
  have HN := hidp hn
  have HBIG := hidp hbig
  clear h hT hn hbig
  go_enter Tryd.func4, Tryd.ntmps4
  go_wp2_with fail
  refine C0.out.mono ?_
  rintro e w1 ⟨rfl, hb1⟩
  have HB1 := hidp hb1
  have HX1 := hidp (HX.out.below hb1)
  have HT1 := hidp (HT.out.below hb1)
  clear hb1 C0
  by_cases h0 : wrongK l = 0
  · have C1 := hidp (make_ok HX1.out h0 HT1.out)
    rw [HN.out] at C1
    obtain ⟨_, hrng, _⟩ := wrongK_zero h0
    have HRNG := hidp hrng
    have HFREE := hidp (codesI_free h0)
    have HGET := hidp (fun (i : Nat) (hi : i < l.length) => codesI_get (l := l) hi)
    have hCL : (codesI l).length = n := by rw [codesI_len, HN.out]
    obtain ⟨cs, hcs⟩ : ∃ cs, codesI l = cs := ⟨_, rfl⟩
    rw [hcs] at C1 HFREE HGET hCL
    have HCL := hidp hCL
    have hnn : ((n : Int) != (n : Int)) = false := by simp
    clear hrng hcs hCL h0
    go_wp2_with fail
    refine C1.out.mono ?_
    rintro e w2 ⟨g, rfl, hs2, hb2⟩
    have HS := hidp hs2
    have HL2 := hidp (HX1.out.below hb2)
    have HB2 := hidp (HB1.out.trans (hb2.mono HB1.out.size))
    clear hs2 hb2 C1 HX HX1
    have HSTR : Hid (∀ (i : Nat) (q : Nat), i < n → ∃ (c : List UInt8) (S : ByteArray) (a : Nat), cs[i]? = some c ∧ l[i]? = some (a : Int) ∧ S.data.toList = c ∧ S.size = a ∧ (w2.drewN q).cell? ⟨g, i, none⟩ = some (.string S)) := fun i q hi => by
      have hil : i < l.length := by rw [HN.out]; exact hi
      have hg := HGET.out i hil
      obtain ⟨g1, o2, eg, _, _, hr2⟩ := HS.out.some (by omega)
      simp only [Option.some.injEq, Addr.mk.injEq] at eg
      obtain ⟨rfl, rfl, _⟩ := eg
      obtain ⟨S, hS, c1⟩ := hr2.strB hg
      rw [Nat.zero_add] at c1
      have hx := HRNG.out _ (List.getElem_mem hil)
      refine ⟨_, S, l[i].toNat, hg, ?_, hS, ?_, c1⟩
      · rw [List.getElem?_eq_getElem hil]; congr 1; omega
      · rw [Lib.size_eq, hS, codeB_len, List.getD_eq_getElem?_getD]
        unfold natL
        rw [List.getElem?_map, List.getElem?_eq_getElem hil]; rfl
    go_wp2
    go_loopg [6] n (fun gi vi wr => ∃ i : Nat, vi = .int .i64 i ∧ i + gi = n ∧ Hid (∃ q, wr = w2.drewN q))
    case atStart => exact ⟨0, rfl, by omega, (show Hid _ from ⟨0, rfl⟩)⟩
    case round =>
      obtain ⟨i, rfl, hgi, HW⟩ := hrel
      by_cases hin : i < n
      · have hiz : (i : Int) < (n : Int) := by omega
        obtain ⟨c, S, a, hc, hla, hS, hSa, cS⟩ : ∃ (c : List UInt8) (S : ByteArray) (a : Nat), cs[i]? = some c ∧ l[i]? = some (a : Int) ∧ S.data.toList = c ∧ S.size = a ∧ wr.cell? ⟨g, i, none⟩ = some (.string S) := by
          obtain ⟨q, hq⟩ := HW.out
          obtain ⟨c, S, a, h1, h2, h3, h4, h5⟩ := HSTR.out i q hin
          exact ⟨c, S, a, h1, h2, h3, h4, by rw [hq]; exact h5⟩
        obtain ⟨b1, o1, rfl, _, _, hr1⟩ := HL2.out.some (by omega)
        have cL : wr.cell? ⟨b1, o1 + i, none⟩ = some (.int .i64 a) := by obtain ⟨q, hq⟩ := HW.out; rw [hq]; exact hr1.int hla
        have haa : ((a : Int) != (a : Int)) = false := by simp
        have HC := hidp hc
        have HSD := hidp hS
        have HSA := hidp hSa
        clear hc hla hr1 hS
        go_wp2_with fail
        go_quiet (fail)
        go_wp2
        go_loopg [7] n (fun gj vj wr => ∃ j : Nat, vj = .int .i64 j ∧ j + gj = n ∧ Hid (∃ q, wr = w2.drewN q))
        case atStart => exact ⟨0, rfl, by omega, (show Hid _ from by obtain ⟨q, hq⟩ := HW.out; exact ⟨_, by rw [hq, World.drewN_drewN]⟩)⟩
        case round =>
          obtain ⟨j, rfl, hgj, HV⟩ := hrel
          by_cases hjn : j < n
          · have hjz : (j : Int) < (n : Int) := by omega
            obtain ⟨d, S2, b, hd, hS2, hSb, cT⟩ : ∃ (d : List UInt8) (S : ByteArray) (a : Nat), cs[j]? = some d ∧ S.data.toList = d ∧ S.size = a ∧ wr.cell? ⟨g, j, none⟩ = some (.string S) := by
              obtain ⟨q, hq⟩ := HV.out
              obtain ⟨c, S, a, h1, _, h3, h4, h5⟩ := HSTR.out j q hjn
              exact ⟨c, S, a, h1, h3, h4, by rw [hq]; exact h5⟩
            have cS : wr.cell? ⟨g, i, none⟩ = some (.string S) := by
              obtain ⟨q, hq⟩ := HV.out
              obtain ⟨c', S', a', h1, _, h3, _, h5⟩ := HSTR.out i q hin
              rw [HC.out] at h1
              cases h1
              have e : S' = S := by
                apply ByteArray.ext
                apply Array.toList_inj.1
                rw [h3, HSD.out]
              rw [hq, ← e]; exact h5
            have hneq : i ≠ j → 0 < a → ¬ (S2.data.toList.take a = S.data.toList) := fun hij ha0 e => by
              refine hij (HFREE.out i j c d HC.out hd ?_ ?_)
              · intro ec
                have := HSA.out
                rw [Lib.size_eq, HSD.out, ec] at this
                simp at this; omega
              · rw [← HSD.out, ← e, ← hS2]
                exact List.take_prefix _ _
            have HNE := hidp hneq
            clear hd hS2 hneq
            have HDR : ∀ nq, Hid (∃ q, wr.drewN nq = w2.drewN q) := fun nq => by obtain ⟨q, hq⟩ := HV.out; exact ⟨_, by rw [hq, World.drewN_drewN]⟩
            by_cases hij : i = j
            · subst hij
              have hd1 : ((i : Int) != (i : Int)) = false := by simp
              go_wp2_with fail
              go_quiet (fail)
              go_wp2
              go_roundg (n - (i + 1))
              case measure => omega
              case rel => exact ⟨i + 1, by go_num, by omega, HDR _⟩
            · have hd1 : ((i : Int) != (j : Int)) = true := bne_iff_ne.2 (by omega)
              by_cases ha0 : 0 < a
              · have hd2 : decide ((0 : Int) < (a : Int)) = true := decide_eq_true (by omega)
                have hd2z : (0 : Int) < (a : Int) := by omega
                by_cases hab : a ≤ b
                · have hd3 : decide ((a : Int) ≤ (b : Int)) = true := decide_eq_true (by omega)
                  have hd3z : (a : Int) ≤ (b : Int) := by omega
                  have hcmp : ((S2.extract 0 a).toList == S.toList) = false := beq_eq_false_iff_ne.2 fun e => HNE.out hij ha0 (by
                    rw [Lib.toList_data, Lib.toList_data, Lib.extract_eq] at e
                    simpa using e)
                  go_wp2_with fail
                  go_quiet (fail)
                  go_wp2
                  go_roundg (n - (j + 1))
                  case measure => omega
                  case rel => exact ⟨j + 1, by go_num, by omega, HDR _⟩
                · have hd3 : decide ((a : Int) ≤ (b : Int)) = false := decide_eq_false (by omega)
                  have hd3z : ¬ (a : Int) ≤ (b : Int) := by omega
                  go_wp2_with fail
                  go_quiet (fail)
                  go_wp2
                  go_roundg (n - (j + 1))
                  case measure => omega
                  case rel => exact ⟨j + 1, by go_num, by omega, HDR _⟩
              · have hd2 : decide ((0 : Int) < (a : Int)) = false := decide_eq_false (by omega)
                have hd2z : ¬ (0 : Int) < (a : Int) := by omega
                go_wp2_with fail
                go_quiet (fail)
                go_wp2
                go_roundg (n - (j + 1))
                case measure => omega
                case rel => exact ⟨j + 1, by go_num, by omega, HDR _⟩
          · have hjz : ¬ (j : Int) < (n : Int) := by omega
            go_wp2
            go_roundg (n - (i + 1))
            case measure => omega
            case rel => exact ⟨i + 1, by go_num, by omega, HV⟩
      · have hiz : ¬ (i : Int) < (n : Int) := by omega
        go_wp2
        go_ret
        obtain ⟨q, hq⟩ := HW.out
        exact ⟨rfl, by rw [hq]; exact below_drewN HB2.out q⟩
  · have c1 := make_bad HX1.out HBIG.out h0
    generalize wrongK l = z at c1
    have C1 := hidp c1
    clear c1 h0
    go_wp2_with fail
    refine C1.out.mono ?_
    rintro e w2 ⟨rfl, rfl⟩
    go_wp2
    go_ret
    exact ⟨rfl, HB1.out⟩
#print axioms codeFree_any
end Go.Proofs.YtlaeaeciomkabaaDoor
