/-
  The law CodeSays, walked: the codes of any lengths, any symbols as bits, any bits as symbols.
-/
import Derived.Test.YtlaeaeciomkabaaDoorRefK4
import Derived.Test.YtlaeaeciomkabaaDoorRefK5
import Derived.Test.YtlaeaeciomkabaaDoorCoFact
import Derived.Test.YtlaeaeciomkabaaDoorTold
import Derived.Test.YtlaeaeciomkabaaDoorSameZ
namespace Go.Proofs.YtlaeaeciomkabaaDoor
open Go.RowKit Go.Sort Go.Proofs

namespace CoSays
theorem err_same (k : Nat) (w : World) (hG : Glob w) : Calls Tryd.prog 12 #[errV k, .int .i64 k] w fun e w' => e = .returned (.bool true) ∧ Below w.heap.size w w' := by
  have := error_any k k w hG
  simpa using this
theorem err_ne {k : Nat} (h : k ≠ 0) (w : World) (hG : Glob w) : Calls Tryd.prog 12 #[.iface 58 (.int .i64 k), .int .i64 k] w fun e w' => e = .returned (.bool true) ∧ Below w.heap.size w w' := by
  have := err_same k w hG
  rwa [errC_ne h] at this
set_option maxHeartbeats 32000000 in
set_option maxRecDepth 20000 in
theorem says_bad {p p2 : Option Addr} {n cap n2 cap2 : Nat} {l m : List Int} (T : ByteArray) (w : World) (h : SlE EZ w (.slice p n cap) l) (h2 : SlE EZ w (.slice p2 n2 cap2) m) (hbig : l.length ≤ 9223372036854775807) (hT : Tz w) (hG : Glob w) (h0 : wrongK l ≠ 0) :
    Calls Tryd.prog 3 #[.slice p n cap, .slice p2 n2 cap2, .string T] w fun e w' => e = .returned (.bool true) ∧ Below w.heap.size w w' := by
  have HX := hidp h
  have HY := hidp h2
  have HGL := hidp hG
  have HTZ := hidp hT
  have HB0 := hidp (Below.refl w.heap.size w)
  have C0 := refLong_any h hbig
  have HMk := hidp (fun W (q : SlE EZ W (.slice p n cap) l) => make_bad q hbig h0)
  have HRE := hidp (fun W (q : SlE EZ W (.slice p n cap) l) => refEncode_bad (u := .slice p2 n2 cap2) q hbig h0)
  have HEn := hidp (fun W (q : SlE EZ W (.slice p n cap) l) => encode_bad (u := .slice p2 n2 cap2) q hbig h0)
  have HRD := hidp (fun W (q : SlE EZ W (.slice p n cap) l) => refDecode_bad (T := T) q hbig h0)
  have HDe := hidp (fun W (q : SlE EZ W (.slice p n cap) l) => decode_bad (T := T) q hbig h0)
  have HE := hidp (fun W (q : Glob W) => err_ne h0 W q)
  obtain ⟨k, hk⟩ : ∃ k, wrongK l = k := ⟨_, rfl⟩
  rw [hk] at C0 HMk HRE HEn HRD HDe HE h0
  have hz : ((k : Int) == 0) = false := beq_eq_false_iff_ne.2 (by omega)
  have HC0 := hidp C0
  clear C0 h h2 hbig hG hT h0 hk HY HTZ
  go_enter Tryd.func3, Tryd.ntmps3
  go_wp2_with fail
  refine (HC0.out).mono ?_
  rintro e w1 ⟨rfl, hb⟩
  have HB1 := hidp (HB0.out.trans (hb.mono HB0.out.size))
  clear hb HB0
  go_wp2_with fail
  refine (HMk.out _ (HX.out.below HB1.out)).mono ?_
  rintro e wz ⟨rfl, hw⟩
  have hw2 := hw.symm
  subst hw2
  clear hw
  go_wp2_with fail
  refine (HE.out _ (HGL.out.below HB1.out)).mono ?_
  rintro e w2 ⟨rfl, hb⟩
  have HB2 := hidp (HB1.out.trans (hb.mono HB1.out.size))
  clear hb HB1
  have C4 := hidp (sameS_any (SlE.empty w2 none 0) (SlE.empty w2 none 0) (by simp))
  simp only [decide_true] at C4
  go_wp2_with fail
  refine C4.out.mono ?_
  rintro e w3 ⟨rfl, q, rfl⟩
  have HB3 := hidp (below_drewN HB2.out q)
  clear HB2 C4 
  generalize w2.drewN q = w3 at HB3 ⊢
  go_wp2_with fail
  refine (HRE.out _ (HX.out.below HB3.out)).mono ?_
  rintro e w4 ⟨rfl, hb⟩
  have HB4 := hidp (HB3.out.trans (hb.mono HB3.out.size))
  clear hb HB3
  go_wp2_with fail
  refine (HEn.out _ (HX.out.below HB4.out)).mono ?_
  rintro e wz ⟨rfl, hw⟩
  have hw2 := hw.symm
  subst hw2
  clear hw
  go_wp2_with fail
  refine (HE.out _ (HGL.out.below HB4.out)).mono ?_
  rintro e w5 ⟨rfl, hb⟩
  have HB5 := hidp (HB4.out.trans (hb.mono HB4.out.size))
  clear hb HB4
  go_wp2_with fail
  refine (HRD.out _ (HX.out.below HB5.out)).mono ?_
  rintro e w6 ⟨rfl, hb⟩
  have HB6 := hidp (HB5.out.trans (hb.mono HB5.out.size))
  clear hb HB5
  go_wp2_with fail
  refine (HDe.out _ (HX.out.below HB6.out)).mono ?_
  rintro e wz ⟨rfl, hw⟩
  have hw2 := hw.symm
  subst hw2
  clear hw
  go_wp2_with fail
  refine (HE.out _ (HGL.out.below HB6.out)).mono ?_
  rintro e w7 ⟨rfl, hb⟩
  have HB7 := hidp (HB6.out.trans (hb.mono HB6.out.size))
  clear hb HB6
  have C9 := hidp (sameI_any (SlE.empty w7 none 0) (SlE.empty w7 none 0) (by simp))
  simp only [decide_true] at C9
  go_wp2_with fail
  refine C9.out.mono ?_
  rintro e w8 ⟨rfl, q, rfl⟩
  have HB8 := hidp (below_drewN HB7.out q)
  clear HB7 C9 
  generalize w7.drewN q = w8 at HB8 ⊢
  go_wp2
  go_ret
  exact ⟨by simp, HB8.out⟩
set_option maxHeartbeats 32000000 in
set_option maxRecDepth 20000 in
theorem says_long {p p2 : Option Addr} {n cap n2 cap2 : Nat} {l m : List Int} (T : ByteArray) (w : World) (h : SlE EZ w (.slice p n cap) l) (h2 : SlE EZ w (.slice p2 n2 cap2) m) (hbig : l.length ≤ 9223372036854775807) (hbig2 : m.length ≤ 9223372036854775807) (hT : Tz w) (hG : Glob w) (h0 : wrongK l = 0) (hl : 400 < T.size) :
    Calls Tryd.prog 3 #[.slice p n cap, .slice p2 n2 cap2, .string T] w fun e w' => e = .returned (.bool true) ∧ Below w.heap.size w w' := by
  have HX := hidp h
  have HY := hidp h2
  have HGL := hidp hG
  have HTZ := hidp hT
  have HB0 := hidp (Below.refl w.heap.size w)
  have C0 := refLong_any h hbig
  rw [h0] at C0
  have HC0 := hidp C0
  have HRC := hidp (fun W (q : SlE EZ W (.slice p n cap) l) => refCodes_any q h0)
  have HMk := hidp (fun W (q : SlE EZ W (.slice p n cap) l) (t : Tz W) => make_ok q h0 t)
  have HRE := hidp (fun W (q : SlE EZ W (.slice p n cap) l) (q2 : SlE EZ W (.slice p2 n2 cap2) m) => refEncode_ok q q2 hbig2 h0)
  have HEn := hidp (fun W (q : SlE EZ W (.slice p n cap) l) (q2 : SlE EZ W (.slice p2 n2 cap2) m) (t : Tz W) => encode_ok q q2 hbig2 h0 t)
  have HE0 : Hid (∀ W, Glob W → Calls Tryd.prog 12 #[.nilIface, .int .i64 0] W fun e w' => e = .returned (.bool true) ∧ Below W.heap.size W w') := fun W hg => err_same 0 W hg
  have HCL : Hid ((codesI l).length ≤ 9223372036854775807) := by show _ ≤ _; rw [codesI_len]; exact hbig
  have hz01 : ((0 : Int) == 0) = true := rfl
  have HRD := hidp (fun W (q : SlE EZ W (.slice p n cap) l) => refDecode_long q h0 hl)
  have HDe := hidp (fun W (q : SlE EZ W (.slice p n cap) l) (t : Tz W) => decode_long q h0 t hl)
  clear hl
  have HEE : Hid (∀ W, Glob W → Calls Tryd.prog 12 #[.iface 58 (.int .i64 4), .int .i64 4] W fun e w' => e = .returned (.bool true) ∧ Below W.heap.size W w') := fun W hg => err_ne (k := 4) (by decide) W hg
  obtain ⟨k, hk⟩ : ∃ k, (encB (codesI l) m []).1 = k := ⟨_, rfl⟩
  obtain ⟨Y, hY⟩ : ∃ Y, sV (encB (codesI l) m []).2 = .string Y := ⟨_, rfl⟩
  rw [hk, hY] at HRE HEn
  have HEK := hidp (err_same k)
  obtain ⟨ev, hev⟩ : ∃ ev, errV k = ev := ⟨_, rfl⟩
  rw [hev] at HEK HEn
  obtain ⟨cs, hcs⟩ : ∃ cs, codesI l = cs := ⟨_, rfl⟩
  rw [hcs] at HRC HMk HCL
  clear C0 h h2 hbig hbig2 hG hT h0 hk hY hev hcs
  go_enter Tryd.func3, Tryd.ntmps3
  go_wp2_with fail
  refine (HC0.out).mono ?_
  rintro e w1 ⟨rfl, hb⟩
  have HB1 := hidp (HB0.out.trans (hb.mono HB0.out.size))
  clear hb HB0
  go_wp2_with fail
  refine (HRC.out _ (HX.out.below HB1.out)).mono ?_
  rintro e w2 ⟨g1, rfl, hs, hb⟩
  have HB2 := hidp (HB1.out.trans (hb.mono HB1.out.size))
  have HS1 := hidp hs
  clear hs
  clear hb HB1
  go_wp2_with fail
  refine (HMk.out _ (HX.out.below HB2.out) (HTZ.out.below HB2.out)).mono ?_
  rintro e w3 ⟨g2, rfl, hs, hb⟩
  have HB3 := hidp (HB2.out.trans (hb.mono HB2.out.size))
  have HS2 := hidp hs
  have HS3 := hidp (HS1.out.below hb)
  clear hs HS1
  clear hb HB2
  go_wp2_with fail
  refine (HE0.out _ (HGL.out.below HB3.out)).mono ?_
  rintro e w4 ⟨rfl, hb⟩
  have HB4 := hidp (HB3.out.trans (hb.mono HB3.out.size))
  have HS4 := hidp (HS2.out.below hb)
  have HS5 := hidp (HS3.out.below hb)
  clear HS2 HS3
  clear hb HB3
  have C5 := hidp (sameS_any HS4.out HS5.out HCL.out)
  simp only [decide_true] at C5
  go_wp2_with fail
  refine C5.out.mono ?_
  rintro e w5 ⟨rfl, q, rfl⟩
  have HB5 := hidp (below_drewN HB4.out q)
  clear HB4 C5 HS4 HS5
  generalize w4.drewN q = w5 at HB5 ⊢
  go_wp2_with fail
  refine (HRE.out _ (HX.out.below HB5.out) (HY.out.below HB5.out)).mono ?_
  rintro e w6 ⟨rfl, hb⟩
  have HB6 := hidp (HB5.out.trans (hb.mono HB5.out.size))
  clear hb HB5
  go_wp2_with fail
  refine (HEn.out _ (HX.out.below HB6.out) (HY.out.below HB6.out) (HTZ.out.below HB6.out)).mono ?_
  rintro e w7 ⟨rfl, hb⟩
  have HB7 := hidp (HB6.out.trans (hb.mono HB6.out.size))
  clear hb HB6
  go_wp2_with fail
  refine (HEK.out _ (HGL.out.below HB7.out)).mono ?_
  rintro e w8 ⟨rfl, hb⟩
  have HB8 := hidp (HB7.out.trans (hb.mono HB7.out.size))
  clear hb HB7
  go_wp2_with fail
  refine (HRD.out _ (HX.out.below HB8.out)).mono ?_
  rintro e w9 ⟨rfl, hb⟩
  have HB9 := hidp (HB8.out.trans (hb.mono HB8.out.size))
  clear hb HB8
  go_wp2_with fail
  refine (HDe.out _ (HX.out.below HB9.out) (HTZ.out.below HB9.out)).mono ?_
  rintro e w10 ⟨rfl, hb⟩
  have HB10 := hidp (HB9.out.trans (hb.mono HB9.out.size))
  clear hb HB9
  go_wp2_with fail
  refine (HEE.out _ (HGL.out.below HB10.out)).mono ?_
  rintro e w11 ⟨rfl, hb⟩
  have HB11 := hidp (HB10.out.trans (hb.mono HB10.out.size))
  clear hb HB10
  have C9 := hidp (sameI_any (SlE.empty w11 none 0) (SlE.empty w11 none 0) (by simp))
  simp only [decide_true] at C9
  go_wp2_with fail
  refine C9.out.mono ?_
  rintro e w12 ⟨rfl, q, rfl⟩
  have HB12 := hidp (below_drewN HB11.out q)
  clear HB11 C9 
  generalize w11.drewN q = w12 at HB12 ⊢
  go_wp2
  go_ret
  exact ⟨by simp, HB12.out⟩
set_option maxHeartbeats 32000000 in
set_option maxRecDepth 20000 in
theorem says_none {p p2 : Option Addr} {n cap n2 cap2 : Nat} {l m : List Int} (T : ByteArray) (w : World) (h : SlE EZ w (.slice p n cap) l) (h2 : SlE EZ w (.slice p2 n2 cap2) m) (hbig : l.length ≤ 9223372036854775807) (hbig2 : m.length ≤ 9223372036854775807) (hT : Tz w) (hG : Glob w) (h0 : wrongK l = 0) (hl : T.size ≤ 400) (hR : decS (codesI l) T.data.toList = none) :
    Calls Tryd.prog 3 #[.slice p n cap, .slice p2 n2 cap2, .string T] w fun e w' => e = .returned (.bool true) ∧ Below w.heap.size w w' := by
  have HX := hidp h
  have HY := hidp h2
  have HGL := hidp hG
  have HTZ := hidp hT
  have HB0 := hidp (Below.refl w.heap.size w)
  have C0 := refLong_any h hbig
  rw [h0] at C0
  have HC0 := hidp C0
  have HRC := hidp (fun W (q : SlE EZ W (.slice p n cap) l) => refCodes_any q h0)
  have HMk := hidp (fun W (q : SlE EZ W (.slice p n cap) l) (t : Tz W) => make_ok q h0 t)
  have HRE := hidp (fun W (q : SlE EZ W (.slice p n cap) l) (q2 : SlE EZ W (.slice p2 n2 cap2) m) => refEncode_ok q q2 hbig2 h0)
  have HEn := hidp (fun W (q : SlE EZ W (.slice p n cap) l) (q2 : SlE EZ W (.slice p2 n2 cap2) m) (t : Tz W) => encode_ok q q2 hbig2 h0 t)
  have HE0 : Hid (∀ W, Glob W → Calls Tryd.prog 12 #[.nilIface, .int .i64 0] W fun e w' => e = .returned (.bool true) ∧ Below W.heap.size W w') := fun W hg => err_same 0 W hg
  have HCL : Hid ((codesI l).length ≤ 9223372036854775807) := by show _ ≤ _; rw [codesI_len]; exact hbig
  have hz01 : ((0 : Int) == 0) = true := rfl
  have HRD : Hid (∀ W, SlE EZ W (.slice p n cap) l → Calls Tryd.prog 16 #[.slice p n cap, .string T] W fun e w' => e = .returned (.tuple #[.slice none 0 0, .int .i64 2]) ∧ Below W.heap.size W w') := fun W q => by
    have := refDecode_ok q h0 hl
    rw [hR] at this
    exact this
  have HDe : Hid (∀ W, SlE EZ W (.slice p n cap) l → Tz W → Calls Tryd.prog 17 #[.slice p n cap, .string T] W fun e w' => e = .returned (.tuple #[.slice none 0 0, .iface 58 (.int .i64 2)]) ∧ Below W.heap.size W w') := fun W q t => by
    have := decode_ok q h0 t hl
    rw [hR] at this
    exact this
  clear hl hR
  have HEE : Hid (∀ W, Glob W → Calls Tryd.prog 12 #[.iface 58 (.int .i64 2), .int .i64 2] W fun e w' => e = .returned (.bool true) ∧ Below W.heap.size W w') := fun W hg => err_ne (k := 2) (by decide) W hg
  obtain ⟨k, hk⟩ : ∃ k, (encB (codesI l) m []).1 = k := ⟨_, rfl⟩
  obtain ⟨Y, hY⟩ : ∃ Y, sV (encB (codesI l) m []).2 = .string Y := ⟨_, rfl⟩
  rw [hk, hY] at HRE HEn
  have HEK := hidp (err_same k)
  obtain ⟨ev, hev⟩ : ∃ ev, errV k = ev := ⟨_, rfl⟩
  rw [hev] at HEK HEn
  obtain ⟨cs, hcs⟩ : ∃ cs, codesI l = cs := ⟨_, rfl⟩
  rw [hcs] at HRC HMk HCL
  clear C0 h h2 hbig hbig2 hG hT h0 hk hY hev hcs
  go_enter Tryd.func3, Tryd.ntmps3
  go_wp2_with fail
  refine (HC0.out).mono ?_
  rintro e w1 ⟨rfl, hb⟩
  have HB1 := hidp (HB0.out.trans (hb.mono HB0.out.size))
  clear hb HB0
  go_wp2_with fail
  refine (HRC.out _ (HX.out.below HB1.out)).mono ?_
  rintro e w2 ⟨g1, rfl, hs, hb⟩
  have HB2 := hidp (HB1.out.trans (hb.mono HB1.out.size))
  have HS1 := hidp hs
  clear hs
  clear hb HB1
  go_wp2_with fail
  refine (HMk.out _ (HX.out.below HB2.out) (HTZ.out.below HB2.out)).mono ?_
  rintro e w3 ⟨g2, rfl, hs, hb⟩
  have HB3 := hidp (HB2.out.trans (hb.mono HB2.out.size))
  have HS2 := hidp hs
  have HS3 := hidp (HS1.out.below hb)
  clear hs HS1
  clear hb HB2
  go_wp2_with fail
  refine (HE0.out _ (HGL.out.below HB3.out)).mono ?_
  rintro e w4 ⟨rfl, hb⟩
  have HB4 := hidp (HB3.out.trans (hb.mono HB3.out.size))
  have HS4 := hidp (HS2.out.below hb)
  have HS5 := hidp (HS3.out.below hb)
  clear HS2 HS3
  clear hb HB3
  have C5 := hidp (sameS_any HS4.out HS5.out HCL.out)
  simp only [decide_true] at C5
  go_wp2_with fail
  refine C5.out.mono ?_
  rintro e w5 ⟨rfl, q, rfl⟩
  have HB5 := hidp (below_drewN HB4.out q)
  clear HB4 C5 HS4 HS5
  generalize w4.drewN q = w5 at HB5 ⊢
  go_wp2_with fail
  refine (HRE.out _ (HX.out.below HB5.out) (HY.out.below HB5.out)).mono ?_
  rintro e w6 ⟨rfl, hb⟩
  have HB6 := hidp (HB5.out.trans (hb.mono HB5.out.size))
  clear hb HB5
  go_wp2_with fail
  refine (HEn.out _ (HX.out.below HB6.out) (HY.out.below HB6.out) (HTZ.out.below HB6.out)).mono ?_
  rintro e w7 ⟨rfl, hb⟩
  have HB7 := hidp (HB6.out.trans (hb.mono HB6.out.size))
  clear hb HB6
  go_wp2_with fail
  refine (HEK.out _ (HGL.out.below HB7.out)).mono ?_
  rintro e w8 ⟨rfl, hb⟩
  have HB8 := hidp (HB7.out.trans (hb.mono HB7.out.size))
  clear hb HB7
  go_wp2_with fail
  refine (HRD.out _ (HX.out.below HB8.out)).mono ?_
  rintro e w9 ⟨rfl, hb⟩
  have HB9 := hidp (HB8.out.trans (hb.mono HB8.out.size))
  clear hb HB8
  go_wp2_with fail
  refine (HDe.out _ (HX.out.below HB9.out) (HTZ.out.below HB9.out)).mono ?_
  rintro e w10 ⟨rfl, hb⟩
  have HB10 := hidp (HB9.out.trans (hb.mono HB9.out.size))
  clear hb HB9
  go_wp2_with fail
  refine (HEE.out _ (HGL.out.below HB10.out)).mono ?_
  rintro e w11 ⟨rfl, hb⟩
  have HB11 := hidp (HB10.out.trans (hb.mono HB10.out.size))
  clear hb HB10
  have C9 := hidp (sameI_any (SlE.empty w11 none 0) (SlE.empty w11 none 0) (by simp))
  simp only [decide_true] at C9
  go_wp2_with fail
  refine C9.out.mono ?_
  rintro e w12 ⟨rfl, q, rfl⟩
  have HB12 := hidp (below_drewN HB11.out q)
  clear HB11 C9 
  generalize w11.drewN q = w12 at HB12 ⊢
  go_wp2
  go_ret
  exact ⟨by simp, HB12.out⟩
set_option maxHeartbeats 32000000 in
set_option maxRecDepth 20000 in
theorem says_some {p p2 : Option Addr} {n cap n2 cap2 : Nat} {l m : List Int} (T : ByteArray) (w : World) (h : SlE EZ w (.slice p n cap) l) (h2 : SlE EZ w (.slice p2 n2 cap2) m) (hbig : l.length ≤ 9223372036854775807) (hbig2 : m.length ≤ 9223372036854775807) (hT : Tz w) (hG : Glob w) (h0 : wrongK l = 0) (hl : T.size ≤ 400) {a : List Int} (hR : decS (codesI l) T.data.toList = some a) (hal : a.length ≤ 9223372036854775807) :
    Calls Tryd.prog 3 #[.slice p n cap, .slice p2 n2 cap2, .string T] w fun e w' => e = .returned (.bool true) ∧ Below w.heap.size w w' := by
  have HX := hidp h
  have HY := hidp h2
  have HGL := hidp hG
  have HTZ := hidp hT
  have HB0 := hidp (Below.refl w.heap.size w)
  have C0 := refLong_any h hbig
  rw [h0] at C0
  have HC0 := hidp C0
  have HRC := hidp (fun W (q : SlE EZ W (.slice p n cap) l) => refCodes_any q h0)
  have HMk := hidp (fun W (q : SlE EZ W (.slice p n cap) l) (t : Tz W) => make_ok q h0 t)
  have HRE := hidp (fun W (q : SlE EZ W (.slice p n cap) l) (q2 : SlE EZ W (.slice p2 n2 cap2) m) => refEncode_ok q q2 hbig2 h0)
  have HEn := hidp (fun W (q : SlE EZ W (.slice p n cap) l) (q2 : SlE EZ W (.slice p2 n2 cap2) m) (t : Tz W) => encode_ok q q2 hbig2 h0 t)
  have HE0 : Hid (∀ W, Glob W → Calls Tryd.prog 12 #[.nilIface, .int .i64 0] W fun e w' => e = .returned (.bool true) ∧ Below W.heap.size W w') := fun W hg => err_same 0 W hg
  have HCL : Hid ((codesI l).length ≤ 9223372036854775807) := by show _ ≤ _; rw [codesI_len]; exact hbig
  have hz01 : ((0 : Int) == 0) = true := rfl
  have HRD : Hid (∀ W, SlE EZ W (.slice p n cap) l → Calls Tryd.prog 16 #[.slice p n cap, .string T] W fun e w' => (∃ u, e = .returned (.tuple #[u, .int .i64 0]) ∧ SlE EZ w' u a) ∧ Below W.heap.size W w') := fun W q => by
    have := refDecode_ok q h0 hl
    rw [hR] at this
    exact this
  have HDe : Hid (∀ W, SlE EZ W (.slice p n cap) l → Tz W → Calls Tryd.prog 17 #[.slice p n cap, .string T] W fun e w' => (∃ u, e = .returned (.tuple #[u, .nilIface]) ∧ SlE EZ w' u a) ∧ Below W.heap.size W w') := fun W q t => by
    have := decode_ok q h0 t hl
    rw [hR] at this
    exact this
  have HAL := hidp hal
  clear hl hR hal
  obtain ⟨k, hk⟩ : ∃ k, (encB (codesI l) m []).1 = k := ⟨_, rfl⟩
  obtain ⟨Y, hY⟩ : ∃ Y, sV (encB (codesI l) m []).2 = .string Y := ⟨_, rfl⟩
  rw [hk, hY] at HRE HEn
  have HEK := hidp (err_same k)
  obtain ⟨ev, hev⟩ : ∃ ev, errV k = ev := ⟨_, rfl⟩
  rw [hev] at HEK HEn
  obtain ⟨cs, hcs⟩ : ∃ cs, codesI l = cs := ⟨_, rfl⟩
  rw [hcs] at HRC HMk HCL
  clear C0 h h2 hbig hbig2 hG hT h0 hk hY hev hcs
  go_enter Tryd.func3, Tryd.ntmps3
  go_wp2_with fail
  refine (HC0.out).mono ?_
  rintro e w1 ⟨rfl, hb⟩
  have HB1 := hidp (HB0.out.trans (hb.mono HB0.out.size))
  clear hb HB0
  go_wp2_with fail
  refine (HRC.out _ (HX.out.below HB1.out)).mono ?_
  rintro e w2 ⟨g1, rfl, hs, hb⟩
  have HB2 := hidp (HB1.out.trans (hb.mono HB1.out.size))
  have HS1 := hidp hs
  clear hs
  clear hb HB1
  go_wp2_with fail
  refine (HMk.out _ (HX.out.below HB2.out) (HTZ.out.below HB2.out)).mono ?_
  rintro e w3 ⟨g2, rfl, hs, hb⟩
  have HB3 := hidp (HB2.out.trans (hb.mono HB2.out.size))
  have HS2 := hidp hs
  have HS3 := hidp (HS1.out.below hb)
  clear hs HS1
  clear hb HB2
  go_wp2_with fail
  refine (HE0.out _ (HGL.out.below HB3.out)).mono ?_
  rintro e w4 ⟨rfl, hb⟩
  have HB4 := hidp (HB3.out.trans (hb.mono HB3.out.size))
  have HS4 := hidp (HS2.out.below hb)
  have HS5 := hidp (HS3.out.below hb)
  clear HS2 HS3
  clear hb HB3
  have C5 := hidp (sameS_any HS4.out HS5.out HCL.out)
  simp only [decide_true] at C5
  go_wp2_with fail
  refine C5.out.mono ?_
  rintro e w5 ⟨rfl, q, rfl⟩
  have HB5 := hidp (below_drewN HB4.out q)
  clear HB4 C5 HS4 HS5
  generalize w4.drewN q = w5 at HB5 ⊢
  go_wp2_with fail
  refine (HRE.out _ (HX.out.below HB5.out) (HY.out.below HB5.out)).mono ?_
  rintro e w6 ⟨rfl, hb⟩
  have HB6 := hidp (HB5.out.trans (hb.mono HB5.out.size))
  clear hb HB5
  go_wp2_with fail
  refine (HEn.out _ (HX.out.below HB6.out) (HY.out.below HB6.out) (HTZ.out.below HB6.out)).mono ?_
  rintro e w7 ⟨rfl, hb⟩
  have HB7 := hidp (HB6.out.trans (hb.mono HB6.out.size))
  clear hb HB6
  go_wp2_with fail
  refine (HEK.out _ (HGL.out.below HB7.out)).mono ?_
  rintro e w8 ⟨rfl, hb⟩
  have HB8 := hidp (HB7.out.trans (hb.mono HB7.out.size))
  clear hb HB7
  go_wp2_with fail
  refine (HRD.out _ (HX.out.below HB8.out)).mono ?_
  rintro e w9 ⟨⟨u1, rfl, hs⟩, hb⟩
  have HB9 := hidp (HB8.out.trans (hb.mono HB8.out.size))
  have HS1 := hidp hs
  clear hs
  clear hb HB8
  go_wp2_with fail
  refine (HDe.out _ (HX.out.below HB9.out) (HTZ.out.below HB9.out)).mono ?_
  rintro e w10 ⟨⟨u2, rfl, hs⟩, hb⟩
  have HB10 := hidp (HB9.out.trans (hb.mono HB9.out.size))
  have HS2 := hidp hs
  have HS3 := hidp (HS1.out.below hb)
  clear hs HS1
  clear hb HB9
  go_wp2_with fail
  refine (HE0.out _ (HGL.out.below HB10.out)).mono ?_
  rintro e w11 ⟨rfl, hb⟩
  have HB11 := hidp (HB10.out.trans (hb.mono HB10.out.size))
  have HS4 := hidp (HS2.out.below hb)
  have HS5 := hidp (HS3.out.below hb)
  clear HS2 HS3
  clear hb HB10
  have C9 := hidp (sameI_any HS4.out HS5.out HAL.out)
  simp only [decide_true] at C9
  go_wp2_with fail
  refine C9.out.mono ?_
  rintro e w12 ⟨rfl, q, rfl⟩
  have HB12 := hidp (below_drewN HB11.out q)
  clear HB11 C9 HS4 HS5
  generalize w11.drewN q = w12 at HB12 ⊢
  go_wp2
  go_ret
  exact ⟨by simp, HB12.out⟩
end CoSays
theorem catB_many {cs : List (List UInt8)} : ∀ {a : List Int}, OkS cs a → a.length ≤ (catB cs a).length
  | [], _ => Nat.zero_le _
  | s :: t, h => by
    have ih := catB_many (a := t) fun x hx => h x (List.mem_cons_of_mem _ hx)
    have h0 := List.length_pos_iff.2 (h s List.mem_cons_self).2.2
    rw [catB_cons, List.length_append, List.length_cons]
    omega
theorem codeSays_any {p p2 : Option Addr} {n cap n2 cap2 : Nat} {l m : List Int} (T : ByteArray) (w : World) (h : SlE EZ w (.slice p n cap) l) (h2 : SlE EZ w (.slice p2 n2 cap2) m) (hbig : l.length ≤ 9223372036854775807) (hbig2 : m.length ≤ 9223372036854775807) (hT : Tz w) (hG : Glob w) :
    Calls Tryd.prog 3 #[.slice p n cap, .slice p2 n2 cap2, .string T] w fun e w' => e = .returned (.bool true) ∧ Below w.heap.size w w' := by
  by_cases h0 : wrongK l = 0
  · by_cases hl : 400 < T.size
    · exact CoSays.says_long T w h h2 hbig hbig2 hT hG h0 hl
    · cases hR : decS (codesI l) T.data.toList with
      | none => exact CoSays.says_none T w h h2 hbig hbig2 hT hG h0 (by omega) hR
      | some a =>
        obtain ⟨x, y⟩ := decS_ok hR
        have := catB_many x
        rw [y, ← Lib.size_eq] at this
        exact CoSays.says_some T w h h2 hbig hbig2 hT hG h0 (by omega) hR (by omega)
  · exact CoSays.says_bad T w h h2 hbig hT hG h0
#print axioms codeSays_any
end Go.Proofs.YtlaeaeciomkabaaDoor
