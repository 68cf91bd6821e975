/-
  bino.written: a heap in memory of its own.
-/
import Derived.Test.YtmkjalpgeljnkaaDoorDMeld
import Derived.Test.YtmkjalpgeljnkaaDoorDSize
import Derived.Test.YtmkjalpgeljnkaaDoorLaid
namespace Go.Proofs.YtmkjalpgeljnkaaDoor
open Go.RowKit Go.Sort Go.Proofs

/-- The heap of what stands at the first n ranks. -/
def putTo (f : Nat → List (Int × Int)) : Nat → List TrL
  | 0 => []
  | n + 1 => putTo f n ++ putR n (f n)
theorem meldTo_put (x y : Nat → List (Int × Int)) : ∀ n, meldTo x y n 0 [] = putTo (outAt x y) n
  | 0 => rfl
  | n + 1 => by rw [meldTo_snoc, meldTo_put x y n]; rfl
theorem putTo_no {f : Nat → List (Int × Int)} {n : Nat} (h : f n = []) : putTo f (n + 1) = putTo f n := by
  show putTo f n ++ putR n (f n) = _
  rw [h]; simp [putR]
theorem putTo_yes {f : Nat → List (Int × Int)} {n : Nat} (h : f n ≠ []) : putTo f (n + 1) = putTo f n ++ [(n, f n)] := by
  show putTo f n ++ putR n (f n) = _
  unfold putR; rw [if_neg h]
/-- .. apart from every block below b. -/
def OutF (b : Nat) (w : World) (B : Option Nat) (os : List (Int × SlV)) (h : List TrL) : Prop := ∀ F, (∀ g, F = some g → g < b) → OutAt F w B os h
/-- The slice value u is a heap of one's own, from block b on, with all its items. -/
def NewH (b : Nat) (w : World) (u : Value) (h : List TrL) : Prop := ∃ os, OwnE ET w b u os ∧ OutF b w u.ownBlock os h
theorem NewH.heap {b : Nat} {w : World} {u : Value} {h : List TrL} (H : NewH b w u h) : HpAt w u (zH h) := by
  obtain ⟨os, h1, h2⟩ := H
  exact (h2 none (fun g e => by cases e)).heap h1
theorem NewH.weak {b b' : Nat} {w : World} {u : Value} {h : List TrL} (H : NewH b w u h) (hb : b' ≤ b) : NewH b' w u h := by
  obtain ⟨os, h1, h2⟩ := H
  exact ⟨os, h1.weak hb, fun F hF => h2 F fun g e => Nat.lt_of_lt_of_le (hF g e) hb⟩
theorem NewH.below {b : Nat} {w w' : World} {u : Value} {h : List TrL} (H : NewH b w u h) (hb : Below w.heap.size w w') : NewH b w' u h := by
  obtain ⟨os, h1, h2⟩ := H
  exact ⟨os, h1.below hb, fun F hF => (h2 F hF).below hb⟩
/-- A block below b may be written. -/
theorem NewH.kept {b : Nat} {w w' : World} {u : Value} {h : List TrL} {row : Option Nat} (H : NewH b w u h) (hg : w.grownBy w' row) (hr : ∀ f, row = some f → f < b) : NewH b w' u h := by
  obtain ⟨os, h1, h2⟩ := H
  refine ⟨os, ?_, fun F hF => ?_⟩
  · refine World.ownsRow.kept h1 hg ?_
    cases hv : u.ownBlock with
    | none => exact Or.inl rfl
    | some g => exact Or.inr fun e => by have h3 := (World.ownsRow.lt h1 g hv).1; have h4 := hr g e.symm; omega
  · refine ⟨(h2 F hF).1, fun i r l e => ?_⟩
    obtain ⟨s, e1, p, c, e2, hc, q | ⟨blk, off, rfl, n1, n2, hrd⟩⟩ := (h2 F hF).2 i r l e
    · exact ⟨s, e1, p, c, e2, hc, Or.inl q⟩
    · obtain ⟨s', e1', p', c', e2', hc', q' | ⟨blk', off', rfl, _, n2', _⟩⟩ := (h2 row hr).2 i r l e
      · exact ⟨s, e1, _, c, e2, hc, Or.inl q'⟩
      · refine ⟨s, e1, _, c, e2, hc, Or.inr ⟨blk, off, rfl, n1, n2, hrd.keptB hg ?_⟩⟩
        rw [e1] at e1'
        simp only [Option.some.injEq, Prod.mk.injEq, true_and] at e1'
        subst e1'
        rw [e2] at e2'
        simp only [Value.slice.injEq, Option.some.injEq, Addr.mk.injEq] at e2'
        rw [e2'.1.1]
        exact n2'

set_option maxHeartbeats 16000000 in
set_option maxRecDepth 4000 in
theorem written_some (s0 s1 s2 s3 s4 s5 : SlV) (f : Nat → List (Int × Int)) (w : World) (HA : Hid (DgAt w [s0, s1, s2, s3, s4, s5] f)) (HX : Hid (∀ j, j < 6 → (f j).length ≤ 1000)) :
    Calls Tryd.prog 36 #[.agg #[.slice s0.1 s0.2.1 s0.2.2, .slice s1.1 s1.2.1 s1.2.2, .slice s2.1 s2.2.1 s2.2.2, .slice s3.1 s3.2.1 s3.2.2, .slice s4.1 s4.2.1 s4.2.2, .slice s5.1 s5.2.1 s5.2.2]] w fun e w' => ∃ u, e = .returned u ∧ NewH w.heap.size w' u (putTo f 6) ∧ Below w.heap.size w w' := by
  obtain ⟨i0, hi, hz0, hz1, hz2⟩ := info_parts info_item
  go_enter Tryd.func36, Tryd.ntmps36
  go_wp2
  go_loopg [3, 9] 6 (fun gg v3 v9 wr => ∃ (k no co : Nat) (po : Option Addr) (os : List (Int × SlV)), v3 = .slice po no co ∧ v9 = .int .i64 k ∧ k ≤ 6 ∧ 6 - k ≤ gg ∧ no ≤ k ∧ Hid (os.length = no) ∧ Hid (OwnE ET wr w.heap.size (.slice po no co) os) ∧ Hid (OutF w.heap.size wr (Value.slice po no co).ownBlock os (putTo f k)) ∧ Hid (Below w.heap.size w wr))
  case atStart =>
    refine ⟨0, 0, 0, _, [], rfl, rfl, by omega, by omega, by omega, rfl, (show OwnE _ _ _ _ _ from ?_), (fun F _ => OutAt.nil _ _ _), ((Below.refl _ _).alloc (Nat.le_refl _) _).alloc (by simp) _⟩
    have h := OwnE.lit ET (w.alloc (.cells #[.slice s0.1 s0.2.1 s0.2.2, .slice s1.1 s1.2.1 s1.2.2, .slice s2.1 s2.2.1 s2.2.2, .slice s3.1 s3.2.1 s3.2.2, .slice s4.1 s4.2.1 s4.2.2, .slice s5.1 s5.2.1 s5.2.2] 62))
    rw [show (w.alloc (.cells #[.slice s0.1 s0.2.1 s0.2.2, .slice s1.1 s1.2.1 s1.2.2, .slice s2.1 s2.2.1 s2.2.2, .slice s3.1 s3.2.1 s3.2.2, .slice s4.1 s4.2.1 s4.2.2, .slice s5.1 s5.2.1 s5.2.2] 62)).heap.size = w.heap.size + 1 by simp] at h
    exact h.weak (by omega)
  case round =>
    obtain ⟨k, no, co, po, os, rfl, rfl, hk, hg, hno, HN, HO, HOUT, HB⟩ := hrel
    have hB : w.heap.size ≤ wr.heap.size := HB.out.size
    by_cases hlt : k < 6
    · have hlz : (k : Int) < 6 := by omega
      obtain ⟨⟨p, n, c⟩, es, hs⟩ := HA.out.2 k hlt
      have jx := ixk s0 s1 s2 s3 s4 s5 k (p, n, c) es
      simp only at jx
      have hcn : n = (f k).length := hs.count
      have hn1 : n ≤ 1000 := by have := HX.out k hlt; omega
      have HL : Hid ((f k).length = n) := hcn.symm
      clear hcn
      have HS : Hid (Sl wr (.slice p n c) (f k).toArray) := hs.below HB.out
      clear es hs
      rcases Nat.eq_zero_or_pos n with rfl | hn
      · have HE : Hid (putTo f (k + 1) = putTo f k) := putTo_no (List.eq_nil_of_length_eq_zero HL.out)
        go_wp2
        go_roundg (6 - (k + 1))
        case measure => omega
        case rel => exact ⟨k + 1, no, co, po, os, rfl, by go_num, by omega, Nat.le_refl _, by omega, HN, HO, by show OutF _ _ _ _ _; rw [HE.out]; exact HOUT.out, HB⟩
      · have hnz : (0 : Int) < (n : Int) := by omega
        have HE : Hid (putTo f (k + 1) = putTo f k ++ [(k, f k)]) := putTo_yes (fun e => by have := HL.out; rw [e] at this; simp at this; omega)
        go_wp2_with (first | (at_make; refine wpList_make_full _ rfl (.tmp 17) (.tmp 17) 35 rfl wr.heap.size 24 i0 (.agg #[.int .i64 0, .int .i64 0]) 2 Tryd.underlying35 hi hz0 hz1 .i64 .i64 _ _ n rfl rfl rfl rfl (by rw [hz2]; omega) (by unfold maxLen; omega) (Nat.le_refl _) ?_; intro w2 hown hgr; obtain ⟨w3, hrun, HW3, hb3⟩ := laidSl wr wr w2 n n c p (f k).toArray (f k).toArray (Below.refl _ _) HS.out (by rw [List.size_toArray]; exact HL.out) hown hgr (by rw [List.size_toArray]; exact HL.out) (fun _ _ _ => rfl) (fun i a b => by omega); clear hown hgr) | (at_builtin; refine wpList_appendE ET rfl (.tmp 22) (.tmp 26) rfl w.heap.size _ _ ((k : Int), (some ⟨wr.heap.size, 0, none⟩, n, n)) ⟨w3.heap.size, 0, none⟩ 1 rfl ((HO.out.below hb3).alloc _) rfl (new_tree w3 _ rfl _ _ _ _) (by rw [HN.out]; omega) (by have := hb3.size; simp; omega) ?_; intro v4 w4 hA4 hg4 hbk))
        have hb4 : Below w.heap.size w w4 := ((HB.out.trans (hb3.mono hB)).alloc (Nat.le_trans hB hb3.size) _).trans (below_ownE ((HO.out.below hb3).alloc _) hg4 (Nat.le_refl _) (by have := hb3.size; simp; omega))
        have hSB : ∀ F, (∀ g, F = some g → g < w.heap.size) → SlB F w3 (Value.slice po no co).ownBlock (.slice (some ⟨wr.heap.size, 0, none⟩) n n) (f k) := by
          intro F hF
          refine ⟨_, n, by rw [HL.out], by rw [HL.out]; exact Nat.le_refl _, Or.inr ⟨wr.heap.size, 0, rfl, fun e => ?_, fun e => ?_, HW3.rd⟩⟩
          · have := (World.ownsRow.lt HO.out _ e.symm).2
            omega
          · have := hF _ e.symm
            omega
        have hba : Below w3.heap.size w3 (w3.alloc (.cells #[.int .i64 (k : Int), .slice (some ⟨wr.heap.size, 0, none⟩) n n] 37)) := (Below.refl _ _).alloc (Nat.le_refl _) _
        have HOUT' : Hid (OutF w.heap.size w4 v4.ownBlock (os ++ [((k : Int), (some ⟨wr.heap.size, 0, none⟩, n, n))]) (putTo f (k + 1))) := by
          show OutF _ _ _ _ _
          rw [HE.out]
          exact fun F hF => ((((HOUT.out F hF).below hb3).below hba).kept hg4 hbk).snoc (((hSB F hF).below hba).kept hg4 hbk)
        obtain ⟨p4, c4, hv4⟩ := hA4.form
        have hlen : (os ++ [((k : Int), ((some ⟨wr.heap.size, 0, none⟩, n, n) : SlV))]).length = no + 1 := by rw [List.length_append, HN.out]; rfl
        rw [hlen] at hv4
        subst hv4
        go_roundg (6 - (k + 1))
        case measure => omega
        case rel => exact ⟨k + 1, no + 1, c4, p4, _, rfl, by go_num, by omega, Nat.le_refl _, by omega, hlen, hA4, HOUT', hb4⟩
    · obtain rfl : k = 6 := by omega
      go_wp2
      go_ret
      exact ⟨_, rfl, ⟨os, HO.out, HOUT.out⟩, HB.out⟩
theorem written_any (d : List SlV) (f : Nat → List (Int × Int)) (w : World) (h : DgAt w d f) (hx : ∀ j, j < 6 → (f j).length ≤ 1000) :
    Calls Tryd.prog 36 #[agV d] w fun e w' => ∃ u, e = .returned u ∧ NewH w.heap.size w' u (putTo f 6) ∧ Below w.heap.size w w' := by
  obtain ⟨s0, s1, s2, s3, s4, s5, rfl⟩ := six h.1
  exact written_some s0 s1 s2 s3 s4 s5 f w h hx
#print axioms written_any
end Go.Proofs.YtmkjalpgeljnkaaDoor
