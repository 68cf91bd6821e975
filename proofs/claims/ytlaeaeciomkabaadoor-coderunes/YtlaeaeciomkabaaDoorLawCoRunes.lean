/-
  The law CodeRunes, walked: the runes of any text, and the text of any numbers.
-/
import Derived.Test.YtlaeaeciomkabaaDoorRefU2
import Derived.Test.YtlaeaeciomkabaaDoorRefU3
import Derived.Test.YtlaeaeciomkabaaDoorTold
import Derived.Test.YtlaeaeciomkabaaDoorSameZ
namespace Go.Proofs.YtlaeaeciomkabaaDoor
open Go.RowKit Go.Sort Go.Proofs

namespace CoRunes
theorem err_same (k : Nat) (w : World) (hG : Glob w) : Calls Tryd.prog 12 #[errV k, .int .i64 k] w fun e w' => e = .returned (.bool true) ∧ Below w.heap.size w w' := by
  have := error_any k k w hG
  simpa using this
set_option maxHeartbeats 16000000 in
set_option maxRecDepth 20000 in
theorem runes_far {p : Option Addr} {n cap : Nat} (S : ByteArray) {l : List Int} (w : World) (h : SlE EZ w (.slice p n cap) l) (hbig : l.length ≤ 9223372036854775807) (hG : Glob w) (hl : 60 < S.size) :
    Calls Tryd.prog 8 #[.string S, .slice p n cap] w fun e w' => e = .returned (.bool true) ∧ Below w.heap.size w w' := by
  have HX := hidp h
  have HGL := hidp hG
  have HBG := hidp hbig
  have HL := hidp (fun W => runes_long (w := W) hl)
  have E4 : ∀ W, Glob W → Calls Tryd.prog 12 #[.iface 58 (.int .i64 4), .int .i64 4] W fun e w' => e = .returned (.bool true) ∧ Below W.heap.size W w' := fun W hg => err_same 4 W hg
  have C1 := hidp (E4 _ hG)
  obtain ⟨a, ha⟩ : ∃ a, S.size = a := ⟨_, rfl⟩
  rw [ha] at hl
  have hd : (60 : Int) < (a : Int) := by omega
  have hd2 : decide ((60 : Int) < (a : Int)) = true := decide_eq_true hd
  clear h hbig hG E4
  go_enter Tryd.func8, Tryd.ntmps8
  go_wp2_with (first | (go_at_call 22; refine (HL.out _).mono ?_; rintro e w0 ⟨rfl, rfl⟩))
  refine C1.out.mono ?_
  rintro e w1 ⟨rfl, hb1⟩
  have HB1 := hidp hb1
  have C2 := hidp (sameI_any (SlE.empty w1 none 0) (SlE.empty w1 none 0) (by simp))
  simp only [decide_true] at C2
  clear hb1 C1 HL
  go_wp2_with fail
  refine C2.out.mono ?_
  rintro e w2 ⟨rfl, q, rfl⟩
  have HB9 := hidp (below_drewN HB1.out q)
  clear HB1 C2
  generalize w1.drewN q = w9 at HB9 ⊢
  have HX9 := hidp (HX.out.below HB9.out)
  have HG9 := hidp (HGL.out.below HB9.out)
  have C5 := hidp (refText_any HX9.out HBG.out)
  obtain ⟨k, hk⟩ : ∃ k, (textU l []).1 = k := ⟨_, rfl⟩
  obtain ⟨Y, hY⟩ : ∃ Y, sV (textU l []).2 = .string Y := ⟨_, rfl⟩
  have HTX := hidp (fun W (q : SlE EZ W (.slice p n cap) l) => text_any q HBG.out)
  rw [hk, hY] at C5 HTX
  have HEK := hidp (err_same k)
  obtain ⟨ev, hev⟩ : ∃ ev, errV k = ev := ⟨_, rfl⟩
  rw [hev] at HEK HTX
  clear hk hY hev
  go_wp2_with fail
  refine C5.out.mono ?_
  rintro e w5 ⟨rfl, hb5⟩
  have HB5 := hidp hb5
  have C6 := hidp (HTX.out _ (HX9.out.below HB5.out))
  clear hb5 C5 HTX
  go_wp2_with fail
  refine C6.out.mono ?_
  rintro e w6 ⟨rfl, hb6⟩
  have HB6 := hidp (HB5.out.trans (hb6.mono HB5.out.size))
  have C7 := hidp (HEK.out _ (HG9.out.below HB6.out))
  clear hb6 C6 HEK HB5
  go_wp2_with fail
  refine C7.out.mono ?_
  rintro e w7 ⟨rfl, hb7⟩
  have HB7 := hidp (HB6.out.trans (hb7.mono HB6.out.size))
  clear hb7 C7 HB6
  go_wp2
  go_ret
  exact ⟨by simp, HB9.out.trans (HB7.out.mono HB9.out.size)⟩
set_option maxHeartbeats 16000000 in
set_option maxRecDepth 20000 in
theorem runes_near {p : Option Addr} {n cap : Nat} (S : ByteArray) {l : List Int} (w : World) (h : SlE EZ w (.slice p n cap) l) (hbig : l.length ≤ 9223372036854775807) (hU : Utf w) (hG : Glob w) (hl : S.size ≤ 60) :
    Calls Tryd.prog 8 #[.string S, .slice p n cap] w fun e w' => e = .returned (.bool true) ∧ Below w.heap.size w w' := by
  have HX := hidp h
  have HGL := hidp hG
  have HBG := hidp hbig
  have HUU := hidp hU
  have C1 := hidp (refRunes_any (w := w) hl)
  have HL := hidp (fun W (q : Utf W) => runes_ok (w := W) hl q)
  have E0 : Hid (∀ W, Glob W → Calls Tryd.prog 12 #[.nilIface, .int .i64 0] W fun e w' => e = .returned (.bool true) ∧ Below W.heap.size W w') := fun W hg => err_same 0 W hg
  have hrl := runes_len S.data.toList.length (l := S.data.toList) (Nat.le_refl _)
  rw [← Lib.size_eq] at hrl
  have HRL := hidp (show (runesS S.data.toList).length ≤ 9223372036854775807 by omega)
  obtain ⟨R, hR⟩ : ∃ R, runesS S.data.toList = R := ⟨_, rfl⟩
  rw [hR] at C1 HL HRL
  obtain ⟨a, ha⟩ : ∃ a, S.size = a := ⟨_, rfl⟩
  rw [ha] at hl
  have hd : ¬ (60 : Int) < (a : Int) := by omega
  have hd2 : decide ((60 : Int) < (a : Int)) = false := decide_eq_false hd
  clear h hbig hU hG hR hrl
  go_enter Tryd.func8, Tryd.ntmps8
  go_wp2_with fail
  refine C1.out.mono ?_
  rintro e w1 ⟨u1, rfl, hs1, hb1⟩
  obtain ⟨p1, c1, rfl, _⟩ := id hs1
  have HS1 := hidp hs1
  have HB1 := hidp hb1
  have C2 := hidp (HL.out _ (HUU.out.below hb1))
  clear hs1 hb1 C1 HL
  go_wp2_with fail
  refine C2.out.mono ?_
  rintro e w2 ⟨u2, rfl, hs2, hb2⟩
  obtain ⟨p2, c2, rfl, _⟩ := id hs2
  have HS2 := hidp hs2
  have HS1' := hidp (HS1.out.below hb2)
  have HB2 := hidp (HB1.out.trans (hb2.mono HB1.out.size))
  have C3 := hidp (E0.out _ (HGL.out.below HB2.out))
  clear hs2 hb2 C2 E0 HB1 HS1
  go_wp2_with fail
  refine C3.out.mono ?_
  rintro e w3 ⟨rfl, hb3⟩
  have HB3 := hidp (HB2.out.trans (hb3.mono HB2.out.size))
  have C4 := hidp (sameI_any (HS2.out.below hb3) (HS1'.out.below hb3) HRL.out)
  simp only [decide_true] at C4
  clear hb3 C3 HB2 HS2 HS1'
  go_wp2_with fail
  refine C4.out.mono ?_
  rintro e w4 ⟨rfl, q, rfl⟩
  have HB9 := hidp (below_drewN HB3.out q)
  clear HB3 C4
  generalize w3.drewN q = w9 at HB9 ⊢
  have HX9 := hidp (HX.out.below HB9.out)
  have HG9 := hidp (HGL.out.below HB9.out)
  have C5 := hidp (refText_any HX9.out HBG.out)
  obtain ⟨k, hk⟩ : ∃ k, (textU l []).1 = k := ⟨_, rfl⟩
  obtain ⟨Y, hY⟩ : ∃ Y, sV (textU l []).2 = .string Y := ⟨_, rfl⟩
  have HTX := hidp (fun W (q : SlE EZ W (.slice p n cap) l) => text_any q HBG.out)
  rw [hk, hY] at C5 HTX
  have HEK := hidp (err_same k)
  obtain ⟨ev, hev⟩ : ∃ ev, errV k = ev := ⟨_, rfl⟩
  rw [hev] at HEK HTX
  clear hk hY hev
  go_wp2_with fail
  refine C5.out.mono ?_
  rintro e w5 ⟨rfl, hb5⟩
  have HB5 := hidp hb5
  have C6 := hidp (HTX.out _ (HX9.out.below HB5.out))
  clear hb5 C5 HTX
  go_wp2_with fail
  refine C6.out.mono ?_
  rintro e w6 ⟨rfl, hb6⟩
  have HB6 := hidp (HB5.out.trans (hb6.mono HB5.out.size))
  have C7 := hidp (HEK.out _ (HG9.out.below HB6.out))
  clear hb6 C6 HEK HB5
  go_wp2_with fail
  refine C7.out.mono ?_
  rintro e w7 ⟨rfl, hb7⟩
  have HB7 := hidp (HB6.out.trans (hb7.mono HB6.out.size))
  clear hb7 C7 HB6
  go_wp2
  go_ret
  exact ⟨by simp, HB9.out.trans (HB7.out.mono HB9.out.size)⟩
end CoRunes

theorem codeRunes_any {p : Option Addr} {n cap : Nat} (S : ByteArray) {l : List Int} (w : World) (h : SlE EZ w (.slice p n cap) l) (hbig : l.length ≤ 9223372036854775807) (hU : Utf w) (hG : Glob w) :
    Calls Tryd.prog 8 #[.string S, .slice p n cap] w fun e w' => e = .returned (.bool true) ∧ Below w.heap.size w w' := by
  by_cases hl : 60 < S.size
  · exact CoRunes.runes_far S w h hbig hG hl
  · exact CoRunes.runes_near S w h hbig hU hG (by omega)
#print axioms codeRunes_any
end Go.Proofs.YtlaeaeciomkabaaDoor
