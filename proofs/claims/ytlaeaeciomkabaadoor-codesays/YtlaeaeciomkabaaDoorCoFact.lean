/-
  The laws' closed fact of package code.
-/
import Derived.Test.YtlaeaeciomkabaaDoorCoDe
import Derived.Test.YtlaeaeciomkabaaDoorSameS
import Derived.Test.YtlaeaeciomkabaaDoorOwn
namespace Go.Proofs.YtlaeaeciomkabaaDoor
open Go.RowKit Go.Sort Go.Proofs

set_option maxHeartbeats 4000000 in
set_option maxRecDepth 20000 in
theorem codeFact_any (w : World) (hT : Tz w) :
    Calls Tryd.prog 19 #[] w fun e w' => e = .returned (.bool true) ∧ Below w.heap.size w w' := by
  have hb0 : Below w.heap.size w (w.alloc (.cells #[.int .i64 2, .int .i64 1, .int .i64 2] 3)) := (Below.refl _ w).alloc (Nat.le_refl _) _
  have c0 := make_ok (new_nums w [2, 1, 2] 3 3 3 rfl (Nat.le_refl _)) (by decide) (hT.below hb0)
  rw [show codesI [2, 1, 2] = [[49, 48], [48], [49, 49]] by decide] at c0
  have C0 := hidp c0
  have HB0 := hidp hb0
  clear c0 hb0 hT
  go_enter Tryd.func19, Tryd.ntmps19
  go_wp2_with (first | (go_at_call 11; refine C0.out.mono ?_; rintro e w1 ⟨g, rfl, hs, hb⟩; have HS := hidp hs; have HB := hidp (HB0.out.trans (hb.mono HB0.out.size)); clear hs hb) | (go_at_call 13; refine (sameS_any (HS.out.below ((Below.refl _ w1).alloc (Nat.le_refl _) (.cells #[sV [49, 48], sV [48], sV [49, 49]] 9))) (new_strs w1 [[49, 48], [48], [49, 49]] 9 3 3 rfl (Nat.le_refl _)) (by simp)).mono ?_; rintro e w2 ⟨rfl, hq⟩; simp only [decide_true]))
  go_ret
  obtain ⟨q, rfl⟩ := hq
  exact ⟨rfl, below_drewN (HB.out.alloc HB.out.size _) q⟩
#print axioms codeFact_any
theorem encB_err {cs : List (List UInt8)} : ∀ {l : List Int} {acc : List UInt8}, (encB cs l acc).1 ≠ 0 → (encB cs l acc).2 = []
  | [], _, h => absurd rfl h
  | s :: t, acc, h => by
    rw [encB] at h ⊢
    by_cases h1 : s < 0 ∨ (cs.length : Int) ≤ s
    · rw [if_pos h1]
    · rw [if_neg h1] at h ⊢
      by_cases h2 : cs.getD s.toNat [] = []
      · rw [if_pos h2]
      · rw [if_neg h2] at h ⊢
        by_cases h3 : 400 < (acc ++ cs.getD s.toNat []).length
        · rw [if_pos h3]
        · rw [if_neg h3] at h ⊢
          exact encB_err h
/-- Encode: it is wrong, and there is no text; or the bits. -/
theorem encode_any {w : World} {v u : Value} {l m : List Int} (h : SlE EZ w v l) (hu : SlE EZ w u m) (hbig : l.length ≤ 9223372036854775807) (hbig2 : m.length ≤ 9223372036854775807) (hT : Tz w) :
    (∃ k : Nat, Calls Tryd.prog 15 #[v, u] w fun e w' => e = .returned (.tuple #[.string ⟨#[]⟩, .iface 58 (.int .i64 k)]) ∧ Below w.heap.size w w') ∨
    (wrongK l = 0 ∧ OkS (codesI l) m ∧ ∃ S : ByteArray, S.data.toList = catB (codesI l) m ∧ S.size ≤ 400 ∧ Calls Tryd.prog 15 #[v, u] w fun e w' => e = .returned (.tuple #[.string S, .nilIface]) ∧ Below w.heap.size w w') := by
  by_cases h0 : wrongK l = 0
  · have c := encode_ok h hu hbig2 h0 hT
    by_cases h1 : (encB (codesI l) m []).1 = 0
    · obtain ⟨a, b, d⟩ := encB_ok h1
      rw [h1, b, List.nil_append] at c
      have d2 := d (by simp)
      rw [List.nil_append] at d2
      exact Or.inr ⟨h0, a, ⟨(catB (codesI l) m).toArray⟩, by simp, by rw [sV_size]; exact d2, c⟩
    · rw [encB_err h1, errC_ne h1] at c
      exact Or.inl ⟨_, c⟩
  · exact Or.inl ⟨_, (encode_bad h hbig h0).mono fun e w' ⟨a, b⟩ => ⟨a, by rw [b]; exact Below.refl _ _⟩⟩
/-- Decode: it is wrong, and there is nothing; or the symbols. -/
theorem decode_any {w : World} {v : Value} {l : List Int} {T : ByteArray} (h : SlE EZ w v l) (hbig : l.length ≤ 9223372036854775807) (hT : Tz w) :
    (∃ k : Nat, k ≠ 0 ∧ (k = 4 → wrongK l = 4 ∨ 400 < T.size) ∧ (wrongK l = 0 → T.size ≤ 400 → decS (codesI l) T.data.toList = none) ∧ (wrongK l = 0 → 400 < T.size → k = 4) ∧ Calls Tryd.prog 17 #[v, .string T] w fun e w' => e = .returned (.tuple #[.slice none 0 0, .iface 58 (.int .i64 k)]) ∧ Below w.heap.size w w') ∨
    (wrongK l = 0 ∧ T.size ≤ 400 ∧ ∃ a, decS (codesI l) T.data.toList = some a ∧ Calls Tryd.prog 17 #[v, .string T] w fun e w' => ∃ u, e = .returned (.tuple #[u, .nilIface]) ∧ SlE EZ w' u a ∧ Below w.heap.size w w') := by
  by_cases h0 : wrongK l = 0
  · by_cases hl : T.size ≤ 400
    · have c := decode_ok h h0 hT hl
      cases hd : decS (codesI l) T.data.toList with
      | none =>
        rw [hd] at c
        exact Or.inl ⟨2, by decide, fun (e : 2 = 4) => absurd e (by decide), fun _ _ => rfl, fun _ q => by omega, c⟩
      | some a =>
        rw [hd] at c
        exact Or.inr ⟨h0, hl, a, rfl, c.mono fun e w' ⟨⟨u, h1, h2⟩, h3⟩ => ⟨u, h1, h2, h3⟩⟩
    · exact Or.inl ⟨4, by decide, fun _ => Or.inr (by omega), fun _ q => absurd q hl, fun _ _ => rfl, decode_long h h0 hT (by omega)⟩
  · exact Or.inl ⟨wrongK l, h0, fun e => Or.inl e, fun q => absurd q h0, fun q => absurd q h0, (decode_bad h hbig h0).mono fun e w' ⟨a, b⟩ => ⟨a, by rw [b]; exact Below.refl _ _⟩⟩
end Go.Proofs.YtlaeaeciomkabaaDoor
