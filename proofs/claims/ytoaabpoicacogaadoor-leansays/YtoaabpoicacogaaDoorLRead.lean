/-
  lean.readPart and lean.readNode: the tree of a list, or that there is none.
-/
import Derived.Test.YtoaabpoicacogaaDoorLTree
namespace Go.Proofs.YtoaabpoicacogaaDoor
open Go.RowKit Go.Proofs

/-- The part that is said to begin at p, and can begin at nx only. -/
def PartOf (xs : List Nd) (nx : Nat) (p : Int) (s : LT) : Prop := (p = -1 ∧ s = .nil) ∨ (p = (nx : Int) ∧ LT.SubAt xs nx s)
theorem PartOf.unique {xs : List Nd} {nx : Nat} {p : Int} {s s' : LT} (h : PartOf xs nx p s) (h' : PartOf xs nx p s') : s = s' := by
  rcases h with ⟨e, rfl⟩ | ⟨e, h⟩
  · rcases h' with ⟨_, rfl⟩ | ⟨e', _⟩
    · rfl
    · omega
  · rcases h' with ⟨e', _⟩ | ⟨_, h'⟩
    · omega
    · exact h.unique h'
theorem PartOf.to {xs : List Nd} {nx : Nat} {p k : Int} {s : LT} (h : PartOf xs nx p s) (ha : LT.above k s) : LT.PartAt xs k nx p s := by
  rcases h with ⟨e, rfl⟩ | ⟨e, h⟩
  · exact .none e
  · exact .some s e h ha
theorem PartOf.of {xs : List Nd} {nx : Nat} {p k : Int} {s : LT} (h : LT.PartAt xs k nx p s) : PartOf xs nx p s := by
  rcases h with ⟨e, rfl⟩ | ⟨e, hs, _⟩
  · exact Or.inl ⟨e, rfl⟩
  · exact Or.inr ⟨e, hs⟩
theorem PartOf.fits {xs : List Nd} {nx : Nat} {p : Int} {s : LT} (h : PartOf xs nx p s) (hn : nx ≤ xs.length) : nx + s.size ≤ xs.length := by
  rcases h with ⟨_, rfl⟩ | ⟨_, h⟩
  · simpa [LT.size] using hn
  · exact h.fits
/-- What readPart tells. -/
def ReadsP (xs : List Nd) (p : Int) (nx : Nat) (e : Ending) (w' : World) : Prop :=
  (∃ q s, e = .returned (.tuple #[.pointer q, .int .i64 ((nx + s.size : Nat) : Int), .bool true]) ∧ TrAt w' s (.pointer q) ∧ PartOf xs nx p s) ∨
    (e = .returned (.tuple #[.pointer none, .int .i64 0, .bool false]) ∧ ∀ s, ¬ PartOf xs nx p s)
/-- What readNode tells. -/
def ReadsN (xs : List Nd) (nx : Nat) (e : Ending) (w' : World) : Prop :=
  (∃ q s, e = .returned (.tuple #[.pointer q, .int .i64 ((nx + s.size : Nat) : Int), .bool true]) ∧ TrAt w' s (.pointer q) ∧ LT.SubAt xs nx s) ∨
    (e = .returned (.tuple #[.pointer none, .int .i64 0, .bool false]) ∧ ∀ s, ¬ LT.SubAt xs nx s)

set_option maxHeartbeats 2000000 in
theorem readPart_any (blk off n cap nx : Nat) (p : Int) (xs : List Nd) (w : World) (HN : Hid (xs.length = n)) (hnx : nx ≤ n) (h60 : n ≤ 60)
    (C : Hid (nx < n → Calls Tryd.prog 42 #[.slice (some ⟨blk, off, none⟩) n cap, .int .i64 nx] w fun e w' => ReadsN xs nx e w' ∧ Below w.heap.size w w')) :
    Calls Tryd.prog 54 #[.slice (some ⟨blk, off, none⟩) n cap, .int .i64 p, .int .i64 nx] w fun e w' => ReadsP xs p nx e w' ∧ Below w.heap.size w w' := by
  by_cases h1 : p = -1
  · subst h1
    go_enter Tryd.func54, Tryd.ntmps54
    go_wp2
    refine bodyPost_ret (by simp [results, Tryd.results54, go_sem]; try rfl) rfl ?_
    exact ⟨Or.inl ⟨none, .nil, rfl, rfl, Or.inl ⟨rfl, rfl⟩⟩, Below.refl _ _⟩
  · by_cases h2 : p = (nx : Int)
    · by_cases h3 : nx < n
      · subst h2
        have hz : ¬ (n : Int) ≤ (nx : Int) := by omega
        go_enter Tryd.func54, Tryd.ntmps54
        go_wp2_with fail
        refine (C.out h3).mono ?_
        rintro e w1 ⟨⟨q, s, rfl, ht, hs⟩ | ⟨rfl, hs⟩, hb⟩
        · have HT : Hid (TrAt w1 s (.pointer q)) := ht
          have HS : Hid (LT.SubAt xs nx s) := hs
          clear ht hs
          go_wp2
          refine bodyPost_ret (by simp [results, Tryd.results54, go_sem]; try rfl) rfl ?_
          exact ⟨Or.inl ⟨q, s, rfl, HT.out, Or.inr ⟨rfl, HS.out⟩⟩, hb⟩
        · have HS : Hid (∀ s, ¬ LT.SubAt xs nx s) := hs
          clear hs
          go_wp2
          refine bodyPost_ret (by simp [results, Tryd.results54, go_sem]; try rfl) rfl ?_
          refine ⟨Or.inr ⟨rfl, fun s h => ?_⟩, hb⟩
          rcases h with ⟨e, _⟩ | ⟨_, h⟩
          · omega
          · exact HS.out s h
      · have hz : (n : Int) ≤ (nx : Int) := by omega
        subst h2
        go_enter Tryd.func54, Tryd.ntmps54
        go_wp2
        refine bodyPost_ret (by simp [results, Tryd.results54, go_sem]; try rfl) rfl ?_
        refine ⟨Or.inr ⟨rfl, fun s h => ?_⟩, Below.refl _ _⟩
        rcases h with ⟨e, _⟩ | ⟨_, h⟩
        · omega
        · have := h.fits
          have h4 := LT.size_pos h.ne
          rw [HN.out] at this
          omega
    · have hq : (p != (nx : Int)) = true := by simpa using h2
      go_enter Tryd.func54, Tryd.ntmps54
      go_wp2
      refine bodyPost_ret (by simp [results, Tryd.results54, go_sem]; try rfl) rfl ?_
      refine ⟨Or.inr ⟨rfl, fun s h => ?_⟩, Below.refl _ _⟩
      rcases h with ⟨e, _⟩ | ⟨e, _⟩
      · exact h1 e
      · exact h2 e

set_option maxHeartbeats 8000000 in
set_option maxRecDepth 4000 in
theorem readNode_step (blk off n cap at_ : Nat) (k d L R : Int) (xs : List Nd) (w : World) (HN : Hid (xs.length = n)) (hat : at_ < n) (h60 : n ≤ 60) (HX : Hid (xs[at_]? = some (k, d, L, R))) (HR : Hid (RdE EN w blk off xs))
    (C : Hid (∀ (w1 : World) (p : Int) (nx : Nat), Below w.heap.size w w1 → at_ < nx → nx ≤ n → Calls Tryd.prog 54 #[.slice (some ⟨blk, off, none⟩) n cap, .int .i64 p, .int .i64 nx] w1 fun e w' => ReadsP xs p nx e w' ∧ Below w1.heap.size w1 w')) :
    Calls Tryd.prog 42 #[.slice (some ⟨blk, off, none⟩) n cap, .int .i64 at_] w fun e w' => ReadsN xs at_ e w' ∧ Below w.heap.size w w' := by
  have hz : (at_ : Int) < (n : Int) := by omega
  have hw1 : IntKind.i64.wrap ((at_ : Int) + 1) = (at_ : Int) + 1 := by rw [IntKind.wrap_i64]; omega
  have hblk := HR.out.1
  obtain ⟨c0, c1, c2, c3⟩ := HR.out.node HX.out
  go_enter Tryd.func42, Tryd.ntmps42
  go_wp2_with fail
  refine (itemOf_any k d L R w).mono ?_
  rintro e w1 ⟨rfl, hb1⟩
  have hb2 : Below w.heap.size w (w1.alloc (.cells #[.int .i64 k, .int .i64 d] 24)) := hb1.alloc hb1.size _
  have i0 : (w1.alloc (.cells #[.int .i64 k, .int .i64 d] 24)).cell? ⟨w1.heap.size, 0, none⟩ = some (.int .i64 k) := by simp
  have i1 : (w1.alloc (.cells #[.int .i64 k, .int .i64 d] 24)).cell? ⟨w1.heap.size, 1, none⟩ = some (.int .i64 d) := by simp
  have hbx : w1.heap.size < (w1.alloc (.cells #[.int .i64 k, .int .i64 d] 24)).heap.size := by simp
  obtain ⟨_, _, d2, d3⟩ := (HR.out.below hb2 hblk).node HX.out
  clear c0 c1 c2 c3
  go_wp2_with fail
  generalize w1.alloc (.cells #[.int .i64 k, .int .i64 d] 24) = w2 at hb2 i0 i1 hbx d2 d3 ⊢
  generalize w1.heap.size = bx at i0 i1 hbx ⊢
  clear hb1
  refine (C.out w2 L (at_ + 1) hb2 (by omega) (by omega)).mono ?_
  rintro e w3 ⟨⟨q1, s1, rfl, ht1, hs1⟩ | ⟨rfl, hs1⟩, hb3'⟩
  · have hb3 := hb2.trans (hb3'.mono hb2.size)
    have j0 := (hb3'.cell (p := ⟨bx, 0, none⟩) hbx).trans i0
    have j1 := (hb3'.cell (p := ⟨bx, 1, none⟩) hbx).trans i1
    have hbx3 : bx < w3.heap.size := Nat.lt_of_lt_of_le hbx hb3'.size
    have HT1 : Hid (TrAt w3 s1 (.pointer q1)) := ht1
    have HS1 : Hid (PartOf xs (at_ + 1) L s1) := hs1
    have hm1 : at_ + 1 + s1.size ≤ n := by have := hs1.fits (by rw [HN.out]; omega); rw [HN.out] at this; exact this
    obtain ⟨m, hm⟩ : ∃ m, at_ + 1 + s1.size = m := ⟨_, rfl⟩
    rw [hm] at hm1 ⊢
    have HM : Hid (at_ + 1 + s1.size = m) := hm
    have hatm : at_ < m := by omega
    clear ht1 hs1 hb3' i0 i1 hbx d2 d3 hm
    have cf := falls_any (w := w3) k d HT1.out
    cases hf : fallsB k s1 with
    | true =>
      rw [hf] at cf
      have HF : Hid (fallsB k s1 = true) := hf
      clear hf
      go_wp2_with fail
      refine cf.mono ?_
      rintro e w4 ⟨rfl, hb4'⟩
      have hb4 := hb3.trans (hb4'.mono hb3.size)
      go_wp2
      refine bodyPost_ret (by simp [results, Tryd.results42, go_sem]; try rfl) rfl ?_
      refine ⟨Or.inr ⟨rfl, fun s h => ?_⟩, hb4⟩
      obtain ⟨a, b, rfl, ha, hb, hc⟩ := h.parts HX.out
      have e := (PartOf.of ha).unique HS1.out
      subst e
      exact fallsB_not HF.out ha.above
    | false =>
      rw [hf] at cf
      have HF : Hid (fallsB k s1 = false) := hf
      clear hf
      go_wp2_with fail
      refine cf.mono ?_
      rintro e w4 ⟨rfl, hb4'⟩
      have hb4 := hb3.trans (hb4'.mono hb3.size)
      have i0 := (hb4'.cell (p := ⟨bx, 0, none⟩) hbx3).trans j0
      have i1 := (hb4'.cell (p := ⟨bx, 1, none⟩) hbx3).trans j1
      have hbx4 : bx < w4.heap.size := Nat.lt_of_lt_of_le hbx3 hb4'.size
      have HT4 : Hid (TrAt w4 s1 (.pointer q1)) := HT1.out.below hb4'
      obtain ⟨_, _, d2, d3⟩ := (HR.out.below hb4 hblk).node HX.out
      clear cf hb4' j0 j1 hbx3 HT1 hb3 hb2
      go_wp2_with fail
      refine (C.out w4 R m hb4 (by omega) hm1).mono ?_
      rintro e w5 ⟨⟨q2, s2, rfl, ht2, hs2⟩ | ⟨rfl, hs2⟩, hb5'⟩
      · have hb5 := hb4.trans (hb5'.mono hb4.size)
        have j0 := (hb5'.cell (p := ⟨bx, 0, none⟩) hbx4).trans i0
        have j1 := (hb5'.cell (p := ⟨bx, 1, none⟩) hbx4).trans i1
        have hbx5 : bx < w5.heap.size := Nat.lt_of_lt_of_le hbx4 hb5'.size
        have HT5 : Hid (TrAt w5 s1 (.pointer q1)) := HT4.out.below hb5'
        have HT2 : Hid (TrAt w5 s2 (.pointer q2)) := ht2
        have HS2 : Hid (PartOf xs m R s2) := hs2
        have hm2 : m + s2.size ≤ n := by have := hs2.fits (by rw [HN.out]; omega); rw [HN.out] at this; exact this
        obtain ⟨mm, hmm⟩ : ∃ mm, m + s2.size = mm := ⟨_, rfl⟩
        rw [hmm] at hm2 ⊢
        have HMM : Hid (m + s2.size = mm) := hmm
        clear ht2 hs2 hb5' i0 i1 hbx4 d2 d3 hmm
        have cf := falls_any (w := w5) k d HT2.out
        cases hf : fallsB k s2 with
        | true =>
          rw [hf] at cf
          have HF2 : Hid (fallsB k s2 = true) := hf
          clear hf
          go_wp2_with fail
          refine cf.mono ?_
          rintro e w6 ⟨rfl, hb6'⟩
          have hb6 := hb5.trans (hb6'.mono hb5.size)
          go_wp2
          refine bodyPost_ret (by simp [results, Tryd.results42, go_sem]; try rfl) rfl ?_
          refine ⟨Or.inr ⟨rfl, fun s h => ?_⟩, hb6⟩
          obtain ⟨a, b, rfl, ha, hb, hc⟩ := h.parts HX.out
          have e := (PartOf.of ha).unique HS1.out
          subst e
          rw [HM.out] at hb
          have e2 := (PartOf.of hb).unique HS2.out
          subst e2
          exact fallsB_not HF2.out hb.above
        | false =>
          rw [hf] at cf
          have HF2 : Hid (fallsB k s2 = false) := hf
          clear hf
          go_wp2_with fail
          refine cf.mono ?_
          rintro e w6 ⟨rfl, hb6'⟩
          have hb6 := hb5.trans (hb6'.mono hb5.size)
          have i0 := (hb6'.cell (p := ⟨bx, 0, none⟩) hbx5).trans j0
          have i1 := (hb6'.cell (p := ⟨bx, 1, none⟩) hbx5).trans j1
          have hbx6 : bx < w6.heap.size := Nat.lt_of_lt_of_le hbx5 hb6'.size
          have HT6 : Hid (TrAt w6 s1 (.pointer q1)) := HT5.out.below hb6'
          have HT7 : Hid (TrAt w6 s2 (.pointer q2)) := HT2.out.below hb6'
          clear cf hb6' j0 j1 hbx5 HT5 HT2 hb5 hb4
          have g1 : s1.spine ≤ 1000 := by have := LT.spine_le s1; have := HM.out; omega
          have g2 : s2.spine ≤ 1000 := by have := LT.spine_le s2; have := HMM.out; omega
          have cs1 := spineOf_any HT6.out
          have cs2 := spineOf_any HT7.out
          obtain ⟨z1, hz1⟩ : ∃ z, s1.spine = z := ⟨_, rfl⟩
          obtain ⟨z2, hz2⟩ : ∃ z, s2.spine = z := ⟨_, rfl⟩
          rw [hz1] at cs1 g1
          rw [hz2] at cs2 g2
          have HZ1 : Hid (s1.spine = z1) := hz1
          have HZ2 : Hid (s2.spine = z2) := hz2
          have C2 : Hid (∀ w', Below w6.heap.size w6 w' → Calls Tryd.prog 29 #[.pointer q2] w' fun e w2 => e = .returned (.int .i64 z2) ∧ w2 = w') := fun w' hb => by have := spineOf_any (HT7.out.below hb); rw [hz2] at this; exact this
          clear hz1 hz2
          have hwz : IntKind.i64.wrap ((z2 : Int) + 1) = (z2 : Int) + 1 := by rw [IntKind.wrap_i64]; omega
          go_wp2_with fail
          refine cs1.mono ?_
          rintro e w7 ⟨rfl, rfl⟩
          go_wp2_with fail
          refine cs2.mono ?_
          rintro e w8 ⟨rfl, rfl⟩
          by_cases hlt : z1 < z2
          · have hlz : (z1 : Int) < (z2 : Int) := by omega
            go_wp2
            refine bodyPost_ret (by simp [results, Tryd.results42, go_sem]; try rfl) rfl ?_
            refine ⟨Or.inr ⟨rfl, fun s h => ?_⟩, hb6⟩
            obtain ⟨a, b, rfl, ha, hb, hc⟩ := h.parts HX.out
            have e := (PartOf.of ha).unique HS1.out
            subst e
            rw [HM.out] at hb
            have e2 := (PartOf.of hb).unique HS2.out
            subst e2
            rw [HZ1.out, HZ2.out] at hc
            omega
          · have hlz : ¬ (z1 : Int) < (z2 : Int) := by omega
            go_wp2_with fail
            go_region_with (first | (go_at_call 29; refine (C2.out _ (below_dn (Below.refl _ _) 1)).mono ?_; rintro e w' ⟨rfl, rfl⟩))
            all_goals
              go_wp2
              refine bodyPost_ret (by simp [results, Tryd.results42, go_sem]; try rfl) rfl ?_
              have hT := TrAt.laid (k := k) (i := d) (Below.refl _ _) (fun w' h => HT6.out.below h) (fun w' h => HT7.out.below h) (show (z2 : Int) = (s2.spine : Int) by rw [HZ2.out]) 1
              refine ⟨Or.inl ⟨_, .node k d s1 s2, ?_, hT.1, ?_⟩, hb6.trans (hT.2.mono hb6.size)⟩
              · simp only [LT.size]
                rw [show at_ + (s1.size + s2.size + 1) = mm by have := HM.out; have := HMM.out; omega]
              · exact LT.SubAt.make HX.out (HS1.out.to (fallsB_above HF.out)) (by rw [HM.out]; exact HS2.out.to (fallsB_above HF2.out)) (by rw [HZ1.out, HZ2.out]; omega)
      · have hb5 := hb4.trans (hb5'.mono hb4.size)
        have HS2 : Hid (∀ s, ¬ PartOf xs m R s) := hs2
        clear hs2
        go_wp2
        refine bodyPost_ret (by simp [results, Tryd.results42, go_sem]; try rfl) rfl ?_
        refine ⟨Or.inr ⟨rfl, fun s h => ?_⟩, hb5⟩
        obtain ⟨a, b, rfl, ha, hb, hc⟩ := h.parts HX.out
        have e := (PartOf.of ha).unique HS1.out
        subst e
        rw [HM.out] at hb
        exact HS2.out _ (PartOf.of hb)
  · have hb3 := hb2.trans (hb3'.mono hb2.size)
    have HS1 : Hid (∀ s, ¬ PartOf xs (at_ + 1) L s) := hs1
    clear hs1
    go_wp2
    refine bodyPost_ret (by simp [results, Tryd.results42, go_sem]; try rfl) rfl ?_
    refine ⟨Or.inr ⟨rfl, fun s h => ?_⟩, hb3⟩
    obtain ⟨a, b, rfl, ha, hb, hc⟩ := h.parts HX.out
    exact HS1.out _ (PartOf.of ha)

theorem readNode_any (blk off n cap : Nat) (xs : List Nd) (hn : xs.length = n) (h60 : n ≤ 60) : ∀ (m at_ : Nat) (w : World), n - at_ ≤ m → at_ < n → RdE EN w blk off xs → Calls Tryd.prog 42 #[.slice (some ⟨blk, off, none⟩) n cap, .int .i64 at_] w fun e w' => ReadsN xs at_ e w' ∧ Below w.heap.size w w'
  | 0, _, _, h, h', _ => absurd h (by omega)
  | m + 1, at_, w, h, hat, hr => by
    obtain ⟨⟨k, d, L, R⟩, hx⟩ : ∃ x, xs[at_]? = some x := ⟨xs[at_]'(by omega), by simp⟩
    refine readNode_step blk off n cap at_ k d L R xs w hn hat h60 hx hr fun w1 p nx hb h1 h2 => ?_
    exact readPart_any blk off n cap nx p xs w1 hn h2 h60 fun h3 => readNode_any blk off n cap xs hn h60 m nx w1 (by omega) h3 (hr.below hb hr.1)
#print axioms readNode_any
end Go.Proofs.YtoaabpoicacogaaDoor
