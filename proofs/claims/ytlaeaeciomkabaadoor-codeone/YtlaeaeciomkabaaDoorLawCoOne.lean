/-
  The law CodeOne, walked: bits mean one thing.
-/
import Derived.Test.YtlaeaeciomkabaaDoorCoFact
import Derived.Test.YtlaeaeciomkabaaDoorTold
namespace Go.Proofs.YtlaeaeciomkabaaDoor
open Go.RowKit Go.Sort Go.Proofs

theorem cat_len {cs : List (List UInt8)} : ∀ {l : List Int}, OkS cs l → l.length ≤ (catB cs l).length
  | [], _ => Nat.zero_le _
  | s :: t, h => by
    have h1 : 0 < (cs.getD s.toNat []).length := List.length_pos_iff.2 (h s (by simp)).2.2
    have h2 := cat_len (cs := cs) (l := t) fun x hx => h x (by simp [hx])
    rw [catB_cons, List.length_append, List.length_cons]; omega
/-- What is decoded is encoded as just these bits. -/
theorem encode_dec {w : World} {v u : Value} {l m : List Int} {T : ByteArray} (h : SlE EZ w v l) (hu : SlE EZ w u m) (h0 : wrongK l = 0) (hT : Tz w) (hl : T.size ≤ 400) (hd : decS (codesI l) T.data.toList = some m) :
    Calls Tryd.prog 15 #[v, u] w fun e w' => e = .returned (.tuple #[.string T, .nilIface]) ∧ Below w.heap.size w w' := by
  obtain ⟨a, b⟩ := decS_ok hd
  have hc : ([] ++ catB (codesI l) m).length ≤ 400 := by rw [List.nil_append, b, ← Lib.size_eq]; exact hl
  have hm : m.length ≤ 400 := by have := cat_len a; rw [List.nil_append] at hc; omega
  have c := encode_ok h hu (by omega) h0 hT
  rw [encB_of a hc, List.nil_append, b] at c
  have e : (⟨T.data.toList.toArray⟩ : ByteArray) = T := bytes_ext (by simp)
  have e2 : sV T.data.toList = .string T := by show Value.string ⟨T.data.toList.toArray⟩ = _; rw [e]
  rw [e2] at c
  exact c
theorem dec_len {cs : List (List UInt8)} {T : ByteArray} {m : List Int} (hl : T.size ≤ 400) (hd : decS cs T.data.toList = some m) : m.length ≤ 400 := by
  obtain ⟨a, b⟩ := decS_ok hd
  have := cat_len a
  rw [b, ← Lib.size_eq] at this
  omega
set_option maxHeartbeats 16000000 in
set_option maxRecDepth 20000 in
theorem codeOne_any (v : Value) (l : List Int) (s t : ByteArray) (w : World) (h : SlE EZ w v l) (hbig : l.length ≤ 9223372036854775807) (ht : t.size ≤ 9223372036854775807) (hT : Tz w) (hG : Glob w) :
    Calls Tryd.prog 7 #[v, .string s, .string t] w fun e w' => e = .returned (.bool true) ∧ Below w.heap.size w w' := by
  obtain ⟨p, cap, rfl, _⟩ := id h
  have C0 := hidp (codeFact_any w hT)
  have HX := hidp h
  have HT := hidp hT
  have HG := hidp hG
  have HB0 := hidp hbig
  have HST := hidp ht
  generalize l.length = n at HX h ⊢
  clear h hT hG hbig ht
  go_enter Tryd.func7, Tryd.ntmps7
  go_wp2_with fail
  refine C0.out.mono ?_
  rintro e w1 ⟨rfl, hb1⟩
  have HB1 := hidp hb1
  have HX1 := hidp (HX.out.below hb1)
  have HT1 := hidp (HT.out.below hb1)
  have HG1 := hidp (HG.out.below hb1)
  clear hb1 C0
  rcases decode_any (T := s) HX1.out HB0.out HT1.out with ⟨k, hk0, _, _, _, c1⟩ | ⟨h0, hs4, a, hda, c1⟩
  · have C1 := hidp c1
    clear c1 hk0
    go_wp2_with fail
    refine C1.out.mono ?_
    rintro e w2 ⟨rfl, hb2⟩
    go_wp2
    go_ret
    exact ⟨rfl, HB1.out.trans (hb2.mono HB1.out.size)⟩
  · have C1 := hidp c1
    have H0 := hidp h0
    have HDA := hidp hda
    have HS4 := hidp hs4
    clear c1 h0 hda hs4
    go_wp2_with fail
    refine C1.out.mono ?_
    rintro e w2 ⟨ua, rfl, hsa, hb2⟩
    obtain ⟨p2, c2, rfl, _⟩ := id hsa
    have HB2 := hidp (HB1.out.trans (hb2.mono HB1.out.size))
    have HX2 := hidp (HX1.out.below hb2)
    have HT2 := hidp (HT1.out.below hb2)
    have HG2 := hidp (HG1.out.below hb2)
    have HSA := hidp hsa
    have C2 := hidp (encode_dec HX2.out hsa H0.out HT2.out HS4.out HDA.out)
    have HLA := hidp (dec_len HS4.out HDA.out)
    generalize a.length = na at HSA C2 ⊢
    clear hsa hb2 C1
    go_wp2_with fail
    refine C2.out.mono ?_
    rintro e w3 ⟨rfl, hb3⟩
    have HB3 := hidp (HB2.out.trans (hb3.mono HB2.out.size))
    have HX3 := hidp (HX2.out.below hb3)
    have HT3 := hidp (HT2.out.below hb3)
    have HG3 := hidp (HG2.out.below hb3)
    have HSA3 := hidp (HSA.out.below hb3)
    clear hb3 C2
    rcases decode_any (T := t) HX3.out HB0.out HT3.out with ⟨k, hk0, _, _, _, c3⟩ | ⟨_, ht4, b, hdb, c3⟩
    · have C3 := hidp c3
      clear c3 hk0
      go_wp2_with fail
      refine C3.out.mono ?_
      rintro e w4 ⟨rfl, hb4⟩
      go_wp2
      go_ret
      exact ⟨rfl, HB3.out.trans (hb4.mono HB3.out.size)⟩
    · have C3 := hidp c3
      have HDB := hidp hdb
      have HT4 := hidp ht4
      clear c3 hdb ht4
      go_wp2_with fail
      refine C3.out.mono ?_
      rintro e w4 ⟨ub, rfl, hsb, hb4⟩
      obtain ⟨p4, c4, rfl, _⟩ := id hsb
      have HB4 := hidp (HB3.out.trans (hb4.mono HB3.out.size))
      have HX4 := hidp (HX3.out.below hb4)
      have HT4' := hidp (HT3.out.below hb4)
      have HG4 := hidp (HG3.out.below hb4)
      have HSA4 := hidp (HSA3.out.below hb4)
      have HSB := hidp hsb
      have HLB := hidp (dec_len HT4.out HDB.out)
      generalize b.length = nb at HSB ⊢
      clear hsb hb4 C3
      obtain ⟨x, hx⟩ : ∃ x, s.size = x := ⟨_, rfl⟩
      obtain ⟨y, hy⟩ : ∃ y, t.size = y := ⟨_, rfl⟩
      have hx4 : x ≤ 400 := by rw [← hx]; exact HS4.out
      have hy4 : y ≤ 400 := by rw [← hy]; exact HT4.out
      have hst : (s ++ t).size = x + y := by rw [ByteArray.size_append, hx, hy]
      have HSTS := hidp hst
      have HL1 : Hid (([] : List Int).length + a.length ≤ 1000000) := by show _ ≤ _; have := HLA.out; simp; omega
      have HL2 : Hid (a.length + b.length ≤ 1000000) := by show _ ≤ _; have := HLA.out; have := HLB.out; omega
      clear hst
      go_wp2_with (first | (at_builtin; refine wpList_append_slE EZ rfl (.tmp 55) (.tmp 56) rfl w4.heap.size _ _ [] a rfl rfl (OwnE.nil EZ w4 _) HSA4.out HL1.out (Nat.le_refl _) ?_; intro v5 w5 a1 a2; have hb5 := below_ownE (OwnE.nil EZ w4 w4.heap.size) a2 (Nat.le_refl _) (Nat.le_refl _); rw [List.nil_append] at a1; obtain ⟨p5, k5, rfl⟩ := OwnE.form a1; have HB5 := hidp hb5; have HO5 := hidp a1; have HSB5 := hidp (HSB.out.below hb5); clear a1 a2 hb5) | (at_builtin; refine wpList_append_slE EZ rfl (.tmp 58) (.tmp 59) rfl w4.heap.size _ _ a b rfl rfl HO5.out HSB5.out HL2.out HB5.out.size ?_; intro v6 w6 a1 a2; have hb6 := below_ownE HO5.out a2 (Nat.le_refl _) HB5.out.size; obtain ⟨p6, k6, rfl⟩ := OwnE.form a1; have HB6 := hidp (HB5.out.trans hb6); have HO6 := hidp a1; clear a1 a2 hb6))
      have HX6 := hidp (HX4.out.below HB6.out)
      have HT6 := hidp (HT4'.out.below HB6.out)
      have HG6 := hidp (HG4.out.below HB6.out)
      have HB46 := hidp (HB4.out.trans (HB6.out.mono HB4.out.size))
      by_cases hlong : 400 < x + y
      · have C5 := hidp (decode_long (T := s ++ t) HX6.out H0.out HT6.out (by rw [HSTS.out]; exact hlong))
        have hz : (400 : Int) - (y : Int) < (x : Int) := by omega
        have hzw : wrap64 (400 - (y : Int)) = 400 - (y : Int) := by unfold wrap64; omega
        refine C5.out.mono ?_
        rintro e w7 ⟨rfl, hb7⟩
        have c6 := error_any 4 4 w7 (HG6.out.below hb7)
        rw [errC_ne (by decide)] at c6
        have C6 := hidp c6
        have HB7 := hidp (HB46.out.trans (hb7.mono HB46.out.size))
        clear c6 hb7 C5
        go_wp2_with fail
        refine C6.out.mono ?_
        rintro e w8 ⟨rfl, hb8⟩
        go_wp2
        go_ret
        exact ⟨rfl, HB7.out.trans (hb8.mono HB7.out.size)⟩
      · have c5 := decode_ok (T := s ++ t) HX6.out H0.out HT6.out (by rw [HSTS.out]; omega)
        have hdd : decS (codesI l) (s ++ t).data.toList = some (a ++ b) := by
          have e : (s ++ t).data.toList = s.data.toList ++ t.data.toList := by simp
          rw [e]
          exact decS_append (codesI_free H0.out) HDA.out HDB.out
        rw [hdd] at c5
        have C5 := hidp c5
        clear c5 hdd
        refine C5.out.mono ?_
        rintro e w7 ⟨⟨r, rfl, hs7⟩, hb7⟩
        obtain ⟨p7, c7, rfl, _⟩ := id hs7
        have hs6 := HO6.out.sl
        rw [List.length_append] at hs6
        have CI := hidp (sameI_any hs7 (hs6.below hb7) (by rw [List.length_append]; have := HL2.out; omega))
        rw [List.length_append] at CI
        simp only [decide_true] at CI
        have HB7 := hidp (HB46.out.trans (hb7.mono HB46.out.size))
        clear hs7 hs6 hb7 C5
        go_wp2_with fail
        refine CI.out.mono ?_
        rintro e w8 ⟨rfl, hq⟩
        go_wp2
        go_ret
        obtain ⟨q, rfl⟩ := hq
        exact ⟨rfl, below_drewN HB7.out q⟩
#print axioms codeOne_any
end Go.Proofs.YtlaeaeciomkabaaDoor
