/-
  The document's bits of symbols (Encode).
-/
import Derived.Test.YtlaeaeciomkabaaDoorRefK1
import Derived.Test.YtlaeaeciomkabaaDoorRefK3
namespace Go.Proofs.YtlaeaeciomkabaaDoor
open Go.RowKit Go.Sort Go.Proofs

theorem natL_zero {l : List Int} (hr : ∀ x ∈ l, 0 ≤ x ∧ x ≤ 20) {y : Nat} {z : Int} (h : l[y]? = some z) {c : List UInt8} (hc : (codesI l)[y]? = some c) : c = [] ↔ z = 0 := by
  have hy := (List.getElem?_eq_some_iff.1 h).1
  rw [codesI_get hy] at hc
  cases hc
  have e : (natL l).getD y 0 = z.toNat := by
    unfold natL
    rw [List.getD_eq_getElem?_getD, List.getElem?_map, h]; rfl
  have hl := codeB_len (natL l) y
  rw [e] at hl
  have h0 := (hr z (List.mem_of_getElem? h)).1
  constructor
  · intro q
    rw [q] at hl
    simp at hl; omega
  · intro q
    subst q
    exact List.eq_nil_of_length_eq_zero hl
set_option maxHeartbeats 4000000 in
theorem refEncode_bad {w : World} {v u : Value} {l : List Int} (h : SlE EZ w v l) (hbig : l.length ≤ 9223372036854775807) (h0 : wrongK l ≠ 0) :
    Calls Tryd.prog 14 #[v, u] w fun e w' => e = .returned (.tuple #[.string ⟨#[]⟩, .int .i64 (wrongK l : Nat)]) ∧ Below w.heap.size w w' := by
  have C := refLong_any h hbig
  obtain ⟨k, hk⟩ : ∃ k, wrongK l = k := ⟨_, rfl⟩
  rw [hk] at C h0 ⊢
  have HC := hidp C
  have hz : ((k : Int) != 0) = true := by simp; omega
  clear h hbig h0 hk C
  go_enter Tryd.func14, Tryd.ntmps14
  go_wp2_with (go_at_call 9; refine HC.out.mono ?_; rintro e w' ⟨rfl, hb⟩; have HB := hidp hb; clear hb)
  go_ret2
  exact ⟨rfl, HB.out⟩
set_option maxHeartbeats 16000000 in
set_option maxRecDepth 20000 in
theorem refEncode_ok {w : World} {v u : Value} {l m : List Int} (h : SlE EZ w v l) (hu : SlE EZ w u m) (hbig : m.length ≤ 9223372036854775807) (h0 : wrongK l = 0) :
    Calls Tryd.prog 14 #[v, u] w fun e w' => e = .returned (.tuple #[sV (encB (codesI l) m []).2, .int .i64 (encB (codesI l) m []).1]) ∧ Below w.heap.size w w' := by
  obtain ⟨p, cap, rfl, _⟩ := id h
  obtain ⟨p2, cap2, rfl, _⟩ := id hu
  obtain ⟨n, hn⟩ : ∃ n, l.length = n := ⟨_, rfl⟩
  obtain ⟨k, hk⟩ : ∃ k, m.length = k := ⟨_, rfl⟩
  obtain ⟨hl40, hrng, _⟩ := wrongK_zero h0
  have C0 := refLong_any h (by omega)
  rw [h0] at C0
  have HC := hidp C0
  have HCO := hidp (fun W (q : SlE EZ W (.slice p l.length cap) l) => refCodes_any q h0)
  have HZ := hidp (fun (y : Nat) (z : Int) (c : List UInt8) (e1 : l[y]? = some z) (e2 : (codesI l)[y]? = some c) => natL_zero hrng e1 e2)
  rw [hn] at HC HCO h hl40 ⊢
  rw [hk] at hu hbig ⊢
  have hcl : (codesI l).length = n := by rw [codesI_len, hn]
  have H20 := hidp (fun (i : Nat) (c : List UInt8) (e : (codesI l)[i]? = some c) => codesI_le h0 e)
  obtain ⟨cs, hcs⟩ : ∃ cs, codesI l = cs := ⟨_, rfl⟩
  rw [hcs] at HCO HZ hcl H20 ⊢
  have HV := hidp h
  have HU := hidp hu
  have HN := hidp hn
  have HK := hidp hk
  have HCL := hidp hcl
  have hz00 : ((0 : Int) != 0) = false := rfl
  clear h hu hn hk h0 hcs hcl hrng C0
  go_enter Tryd.func14, Tryd.ntmps14
  go_wp2_with (first | (go_at_call 9; refine HC.out.mono ?_; rintro e w0 ⟨rfl, hb⟩; have HB0 := hidp hb; have HV0 := hidp (HV.out.below hb); clear hb) | (go_at_call 10; refine (HCO.out _ HV0.out).mono ?_; rintro e w1 ⟨g, rfl, hs, hb⟩; have HS := hidp hs; have HB := hidp (HB0.out.trans (hb.mono HB0.out.size)); clear hs hb))
  have HU1 := hidp (HU.out.below HB.out)
  have HV1 := hidp (HV.out.below HB.out)
  clear HV0 HB0 HC HCO
  go_loopg [8, 9] k (fun gh v8 vi wr => ∃ (i a : Nat) (T : ByteArray), v8 = .string T ∧ vi = .int .i64 i ∧ i + gh = k ∧ T.size = a ∧ a ≤ 400 ∧ w1 = wr ∧ Hid (encB cs m [] = encB cs (m.drop i) T.data.toList))
  case atStart => exact ⟨0, 0, ⟨#[]⟩, rfl, rfl, by omega, rfl, by omega, rfl, (show Hid _ from rfl)⟩
  case round =>
    obtain ⟨i, a, T, rfl, rfl, hg, hTa, ha, hw, HR⟩ := hrel
    subst hw
    by_cases hlt : i < k
    · have hlz : (i : Int) < (k : Int) := by omega
      obtain ⟨x, hx⟩ : ∃ x, m[i]? = some x := ⟨_, List.getElem?_eq_getElem (by have := HK.out; omega)⟩
      have hdr : m.drop i = x :: m.drop (i + 1) := by
        obtain ⟨h1, h2⟩ := List.getElem?_eq_some_iff.1 hx
        rw [← h2, List.getElem_cons_drop]
      rw [hdr] at HR
      obtain ⟨b1, o1, rfl, _, _, hr1⟩ := HU1.out.some (by omega)
      have c0 := hr1.int hx
      have hnw : wrap64 ((n : Int) - 1) = (n : Int) - 1 := by unfold wrap64; omega
      have C := in_out x ((n : Int) - 1) w1
      clear hx hr1 hdr
      by_cases hrg : x < 0 ∨ (cs.length : Int) ≤ x
      · have ho : outC ((n : Int) - 1) x = true := by
          rw [HCL.out] at hrg
          unfold outC
          rcases hrg with q | q
          · rw [decide_eq_true q]; rfl
          · rw [decide_eq_true (show (n : Int) - 1 < x by omega), Bool.or_true]
        rw [ho] at C
        have HC := hidp C
        have HF := hidp (HR.out.trans (encB_neg hrg))
        clear C ho hrg
        go_wp2_with (go_at_call 25; refine HC.out.mono ?_; rintro e w2 ⟨rfl, hw2⟩; subst hw2)
        go_ret2
        exact ⟨by rw [HF.out]; rfl, HB.out⟩
      · have ho : outC ((n : Int) - 1) x = false := by
          rw [HCL.out] at hrg
          exact outC_of (by omega) (by omega)
        rw [ho] at C
        have HC := hidp C
        have hx0 : 0 ≤ x := by omega
        obtain ⟨y, rfl⟩ : ∃ y : Nat, x = y := ⟨x.toNat, by omega⟩
        have hyn : y < n := by have := HCL.out; omega
        obtain ⟨c, hc⟩ : ∃ c, cs[y]? = some c := ⟨_, List.getElem?_eq_getElem (by have := HCL.out; omega)⟩
        obtain ⟨z, hz⟩ : ∃ z, l[y]? = some z := ⟨_, List.getElem?_eq_getElem (by have := HN.out; omega)⟩
        have hiff := HZ.out y z c hz hc
        have hcd : cs.getD (y : Int).toNat [] = c := by rw [Int.toNat_natCast, List.getD_eq_getElem?_getD, hc]; rfl
        obtain ⟨g1, o2, eg, _, _, hr2⟩ := HS.out.some (by omega)
        simp only [Option.some.injEq, Addr.mk.injEq] at eg
        obtain ⟨rfl, rfl, _⟩ := eg
        obtain ⟨S, hS, c1⟩ := hr2.strB hc
        rw [Nat.zero_add] at c1
        obtain ⟨b2, o3, rfl, _, _, hr3⟩ := HV1.out.some (by omega)
        have c2 := hr3.int hz
        have hc20 := H20.out y c hc
        have hSs : S.size = c.length := by rw [Lib.size_eq, hS]
        obtain ⟨b, hb⟩ : ∃ b, c.length = b := ⟨_, rfl⟩
        have hTS : (T ++ S).data.toList = T.data.toList ++ c := by rw [← hS]; simp
        have hTl : T.data.toList.length = a := by rw [← Lib.size_eq, hTa]
        rw [hb] at hSs hc20
        have hyz : (0 : Int) ≤ (y : Int) := by omega
        have hynz : (y : Int) < (n : Int) := by omega
        have HRG := hidp hrg
        have HCD := hidp hcd
        have HTS := hidp hTS
        have HTL := hidp hTl
        have HB2 := hidp hb
        clear hc hr2 hrg hcd hTS hTl hb hS hz hr3 ho C
        by_cases he : z = 0
        · have hE : (z == 0) = true := by simpa using he
          have HF := hidp (HR.out.trans (encB_none HRG.out (by rw [HCD.out]; exact hiff.2 he)))
          clear he hiff
          go_wp2_with (go_at_call 25; refine HC.out.mono ?_; rintro e w2 ⟨rfl, hw2⟩; subst hw2)
          go_ret2
          exact ⟨by rw [HF.out]; rfl, HB.out⟩
        · have hE : (z == 0) = false := by simpa using he
          have hcn : ¬ c = [] := fun q => he (hiff.1 q)
          have hLen : (T.data.toList ++ c).length = a + b := by rw [List.length_append, HTL.out, HB2.out]
          by_cases hf : 400 < a + b
          · have hfz : (400 : Int) < (a : Int) + (b : Int) := by omega
            have HF := hidp (HR.out.trans (encB_full HRG.out (by rw [HCD.out]; exact hcn) (by rw [HCD.out, hLen]; exact hf)))
            clear he hLen hiff hcn
            go_wp2_with (go_at_call 25; refine HC.out.mono ?_; rintro e w2 ⟨rfl, hw2⟩; subst hw2)
            go_ret2
            exact ⟨by rw [HF.out]; rfl, HB.out⟩
          · have hfz : ¬ (400 : Int) < (a : Int) + (b : Int) := by omega
            have HF := hidp (HR.out.trans (encB_go HRG.out (by rw [HCD.out]; exact hcn) (by rw [HCD.out, hLen]; exact hf)))
            rw [HCD.out, ← HTS.out] at HF
            have HSZ : Hid ((T ++ S).size = a + b) := by show _ = _; rw [ByteArray.size_append, hTa, hSs]
            clear he hLen hiff hcn
            go_wp2_with (go_at_call 25; refine HC.out.mono ?_; rintro e w2 ⟨rfl, hw2⟩; subst hw2)
            go_roundg (k - (i + 1))
            case measure => omega
            case rel => exact ⟨i + 1, a + b, T ++ S, rfl, by go_num, by omega, HSZ.out, by omega, rfl, HF⟩
    · have hlz : ¬ (i : Int) < (k : Int) := by omega
      have HF : Hid (encB cs m [] = (0, T.data.toList)) := by
        have := HR.out
        rw [List.drop_of_length_le (by have := HK.out; omega)] at this
        exact this
      go_wp2
      go_ret2
      exact ⟨by rw [HF.out]; rfl, HB.out⟩
#print axioms refEncode_ok
end Go.Proofs.YtlaeaeciomkabaaDoor
