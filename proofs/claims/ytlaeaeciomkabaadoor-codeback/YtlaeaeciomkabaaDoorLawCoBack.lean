/-
  The law CodeBack, walked: what is encoded is decoded.
-/
import Derived.Test.YtlaeaeciomkabaaDoorCoFact
namespace Go.Proofs.YtlaeaeciomkabaaDoor
open Go.RowKit Go.Sort Go.Proofs

set_option maxHeartbeats 16000000 in
set_option maxRecDepth 20000 in
theorem codeBack_any (v u : Value) (l m : List Int) (w : World) (h : SlE EZ w v l) (hu : SlE EZ w u m) (hbig : l.length ≤ 9223372036854775807) (hbig2 : m.length ≤ 9223372036854775807) (hT : Tz w) :
    Calls Tryd.prog 6 #[v, u] w fun e w' => e = .returned (.bool true) ∧ Below w.heap.size w w' := by
  obtain ⟨p, cap, rfl, _⟩ := id h
  obtain ⟨p2, cap2, rfl, _⟩ := id hu
  have C0 := hidp (codeFact_any w hT)
  have HX := hidp h
  have HU := hidp hu
  have HT := hidp hT
  have HG := hidp hbig
  have HG2 := hidp hbig2
  generalize l.length = n at HX h ⊢
  generalize m.length = k at HU hu ⊢
  clear h hu hT hbig hbig2
  go_enter Tryd.func6, Tryd.ntmps6
  go_wp2_with fail
  refine C0.out.mono ?_
  rintro e w1 ⟨rfl, hb1⟩
  have HB1 := hidp hb1
  have HX1 := hidp (HX.out.below hb1)
  have HU1 := hidp (HU.out.below hb1)
  have HT1 := hidp (HT.out.below hb1)
  clear hb1 C0
  rcases encode_any HX1.out HU1.out HG.out HG2.out HT1.out with ⟨z, c1⟩ | ⟨h0, hok, S, hS, hSs, c1⟩
  · have C1 := hidp c1
    clear c1
    go_wp2_with fail
    refine C1.out.mono ?_
    rintro e w2 ⟨rfl, hb2⟩
    go_wp2
    go_ret
    exact ⟨rfl, HB1.out.trans (hb2.mono HB1.out.size)⟩
  · have C1 := hidp c1
    have H0 := hidp h0
    have HOK := hidp hok
    have HS := hidp hS
    clear c1 h0 hok hS
    go_wp2_with fail
    refine C1.out.mono ?_
    rintro e w2 ⟨rfl, hb2⟩
    have c2 := decode_ok (T := S) (HX1.out.below hb2) H0.out (HT1.out.below hb2) hSs
    have hd : decS (codesI l) S.data.toList = some m := by
      rw [HS.out]
      have := dec_cat (codesI_free H0.out) [] HOK.out
      rw [List.append_nil, decS_nil] at this
      rw [this]; simp
    rw [hd] at c2
    have C2 := hidp c2
    have HB2 := hidp (HB1.out.trans (hb2.mono HB1.out.size))
    have HU2 := hidp (HU1.out.below hb2)
    clear c2 hd hb2 C1 hSs
    go_wp2_with fail
    refine C2.out.mono ?_
    rintro e w3 ⟨⟨r, rfl, hs3⟩, hb3⟩
    obtain ⟨p3, c3, rfl, _⟩ := id hs3
    have CI := hidp (sameI_any hs3 (HU2.out.below hb3) HG2.out)
    simp only [decide_true] at CI
    have HB3 := hidp (HB2.out.trans (hb3.mono HB2.out.size))
    clear hs3 hb3 C2
    go_wp2_with fail
    refine CI.out.mono ?_
    rintro e w4 ⟨rfl, hq⟩
    go_wp2
    go_ret
    obtain ⟨q, rfl⟩ := hq
    exact ⟨rfl, below_drewN HB3.out q⟩
#print axioms codeBack_any
end Go.Proofs.YtlaeaeciomkabaaDoor
