/-
  The law LeanSays, walked: what is wrong with any list as a leaning heap, its spine, any melded, pushed, and popped.
-/
import Derived.Test.YtoaabpoicacogaaDoorLawLSays1
import Derived.Test.YtoaabpoicacogaaDoorLawLSays2
import Derived.Test.YtoaabpoicacogaaDoorLawLSays3
import Derived.Test.YtoaabpoicacogaaDoorLawLSays4
import Derived.Test.YtoaabpoicacogaaDoorRefO
import Derived.Test.YtoaabpoicacogaaDoorSameN
namespace Go.Proofs.YtoaabpoicacogaaDoor
open Go.RowKit Go.Sort Go.Proofs

theorem nat_eq {k : Nat} (h : k ≠ 0) : ((k : Int) == 0) = false := beq_eq_false_iff_ne.2 (by omega)
theorem nat_bne {k : Nat} (h : k ≠ 0) : ((k : Int) != 0) = true := bne_iff_ne.2 (by omega)
theorem says_some (xs : List Nd) : ∃ g m, LT.Says xs g m := by
  rcases says_cases xs with ⟨t, h⟩ | ⟨k, _, h⟩
  · exact ⟨_, _, h.says⟩
  · exact ⟨_, _, h⟩
theorem lean_says (v : Value) (xs : List Nd) (g m : Nat) (w : World) (h : SlE EN w v xs) (hbig : xs.length ≤ 9223372036854775807) (hs : LT.Says xs g m) :
    Calls Tryd.prog 8 #[v] w fun e w' => e = .returned (.tuple #[.int .i64 g, .int .i64 m]) ∧ Below w.heap.size w w' :=
  (lean_any v xs w h hbig).mono fun e w' ⟨a, b, he, hsays, hb⟩ => by
    obtain ⟨rfl, rfl⟩ := hsays.unique hs
    exact ⟨he, hb⟩
/-- A list of one's own, as a slice of a known length. -/
theorem told_slice {w' w1 : World} {B : Nat} {e : Ending} {t : LT} {N : Nat} {f : Value → Value} (hN : t.size = N) (h : ∃ v', e = .returned (f v') ∧ OwnE EN w' B v' (LT.enc 0 t) ∧ Below w1.heap.size w1 w') : ∃ p c, e = .returned (f (.slice p N c)) ∧ SlE EN w' (.slice p N c) (LT.enc 0 t) ∧ Below w1.heap.size w1 w' := by
  obtain ⟨v', rfl, ho, hb⟩ := h
  obtain ⟨p, c, e⟩ := ho.form
  rw [LT.enc_length, hN] at e
  subst e
  exact ⟨p, c, rfl, ho.sl, hb⟩

set_option maxHeartbeats 2000000 in
theorem leanSays_any (v v' : Value) (x0 x1 : Int) (xs ys : List Nd) (w : World) (h : SlE EN w v xs) (h' : SlE EN w v' ys) (hbig0 : xs.length ≤ 9223372036854775807) (hbig0' : ys.length ≤ 9223372036854775807) (hgl : Glob w) :
    Calls Tryd.prog 3 #[v, v', .agg #[.int .i64 x0, .int .i64 x1]] w fun e w' => e = .returned (.bool true) ∧ Below w.heap.size w w' := by
  obtain ⟨p, cap, rfl, hcap, hp⟩ := id h
  obtain ⟨p', cap', rfl, hcap', hp'⟩ := id h'
  obtain ⟨B, hB⟩ : ∃ B, (w.alloc (.cells #[.int .i64 x0, .int .i64 x1] 24)) = B := ⟨_, rfl⟩
  have hb0 : Below w.heap.size w B := by rw [← hB]; exact (Below.refl _ _).alloc (Nat.le_refl _) _
  have hs0 := h.below hb0
  have hs0' := h'.below hb0
  have hgl0 := hgl.below hb0
  obtain ⟨n, hn⟩ : ∃ n, xs.length = n := ⟨_, rfl⟩
  obtain ⟨n', hn'⟩ : ∃ n', ys.length = n' := ⟨_, rfl⟩
  rw [hn] at hs0 ⊢
  rw [hn'] at hs0' ⊢
  have hbig : n ≤ 9223372036854775807 := by omega
  have hbig' : n' ≤ 9223372036854775807 := by omega
  have cE := fun (k : Nat) w1 (hb : Below B.heap.size B w1) => error_any k k w1 (hgl0.below hb)
  have cE0 := fun w1 (hb : Below B.heap.size B w1) => error_any 0 0 w1 (hgl0.below hb)
  simp only [beq_self_eq_true] at cE cE0
  have cN0 : ∀ w1, Below B.heap.size B w1 → Calls Tryd.prog 14 #[.slice none 0 0, .slice none 0 0] w1 fun e w' => e = .returned (.bool true) ∧ Below w1.heap.size w1 w' :=
    fun w1 _ => nodes_same _ _ [] w1 (SlE.empty _ _ _) (SlE.empty _ _ _) (by simp)
  have cN : ∀ (D : List Nd) (N : Nat), D.length ≤ 1000 → ∀ w1 p c u, SlE EN w1 (.slice p N c) D → SlE EN w1 u D → Calls Tryd.prog 14 #[.slice p N c, u] w1 fun e w' => e = .returned (.bool true) ∧ Below w1.heap.size w1 w' :=
    fun D N hl w1 p c u h1 h2 => nodes_same _ _ D w1 h1 h2 hl
  have cX : ∀ (c m : Nat), LT.Says (aloneN x0 x1) c m → ∀ w1 g, SlE EN w1 (.slice (some ⟨g, 0, none⟩) 1 1) (aloneN x0 x1) → Calls Tryd.prog 8 #[.slice (some ⟨g, 0, none⟩) 1 1] w1 fun e w' => e = .returned (.tuple #[.int .i64 c, .int .i64 m]) ∧ Below w1.heap.size w1 w' :=
    fun c m hs w1 g hl => lean_says _ _ c m w1 hl (by simp) hs
  have cL : ∀ (g m : Nat), LT.Says xs g m → ∀ w1, Below B.heap.size B w1 → Calls Tryd.prog 8 #[.slice p n cap] w1 fun e w' => e = .returned (.tuple #[.int .i64 g, .int .i64 m]) ∧ Below w1.heap.size w1 w' :=
    fun g m hs w1 hb => lean_says _ _ g m w1 (hs0.below hb) (by omega) hs
  have cL' : ∀ (g m : Nat), LT.Says ys g m → ∀ w1, Below B.heap.size B w1 → Calls Tryd.prog 8 #[.slice p' n' cap'] w1 fun e w' => e = .returned (.tuple #[.int .i64 g, .int .i64 m]) ∧ Below w1.heap.size w1 w' :=
    fun g m hs w1 hb => lean_says _ _ g m w1 (hs0'.below hb) (by omega) hs
  rcases says_cases xs with ⟨t, ht⟩ | ⟨k, hk0, hk⟩
  · have htn : t.size = n := by rw [← ht.len]; exact hn
    have h60 : n ≤ 60 := by rw [← htn]; exact ht.le
    obtain ⟨m, hm⟩ : ∃ m, t.spine = m := ⟨_, rfl⟩
    have cRA := cL 0 m (by rw [← hm]; exact ht.says)
    have cK := fun w1 (hb : Below B.heap.size B w1) => leanCheck_good _ xs t w1 (hs0.below hb) ht
    have cSP := fun w1 (hb : Below B.heap.size B w1) => leanSpine_good _ xs t w1 (hs0.below hb) ht
    rw [hm] at cSP
    -- the ways of melding
    rcases says_cases ys with ⟨t', ht'⟩ | ⟨g, hg0, hg⟩
    · have htn' : t'.size = n' := by rw [← ht'.len]; exact hn'
      have h60' : n' ≤ 60 := by rw [← htn']; exact ht'.le
      obtain ⟨m2, hm2⟩ : ∃ m, t'.spine = m := ⟨_, rfl⟩
      have cRB := cL' 0 m2 (by rw [← hm2]; exact ht'.says)
      by_cases hfull : 60 < n + n'
      · have cM := fun w1 (hb : Below B.heap.size B w1) => leanMeld_bad _ _ xs ys 4 w1 (hs0.below hb) (hs0'.below hb) (by omega) (by omega) (Or.inr ⟨t, ht, Or.inr ⟨t', ht', by omega, rfl⟩⟩)
        cases ho : outB (x0, x1) with
        | true =>
          obtain ⟨m3, hm3⟩ : ∃ m3, (0 : Nat) = m3 := ⟨_, rfl⟩
          have cRX := cX 1 m3 (by rw [← hm3]; exact alone_says ho)
          have cP := fun w1 (hb : Below B.heap.size B w1) => leanPush_bad _ x0 x1 xs 1 w1 (hs0.below hb) (by omega) (Or.inr ⟨t, ht, Or.inl ⟨by decide, alone_says ho⟩⟩)
          cases t using LT.parts with
          | nil => exact absurd htn (by simp [LT.size]; omega)
          | node y0 y1 a b =>
            obtain ⟨blk, off, rfl, _, _, hr⟩ := hs0.some (by omega)
            obtain ⟨R, hR⟩ : ∃ D, LT.enc 0 (LT.meld a b) = D := ⟨_, rfl⟩
            obtain ⟨nR, hnR⟩ : ∃ N, (LT.meld a b).size = N := ⟨_, rfl⟩
            have hRl : R.length ≤ 1000 := by have h1 := htn; simp only [LT.size] at h1; rw [← hR, LT.enc_length, LT.meld_size]; omega
            have e5 := ht.enc
            have cRO : ∀ w1, Below B.heap.size B w1 → Calls Tryd.prog 16 #[.slice (some ⟨blk, off, none⟩) n cap] w1 fun e w' => ∃ u, e = .returned u ∧ OwnE EN w' w1.heap.size u R ∧ Below w1.heap.size w1 w' := fun w1 hb => by
              rw [← hR]
              exact refLeanPop_any blk off n cap y0 y1 a b w1 h60 (show _ = _ by simpa only [LT.size] using htn) ht.leans ht.inR (by rw [e5] at hr; exact hr.below hb hr.1)
            have cO : ∀ w1, Below B.heap.size B w1 → Calls Tryd.prog 17 #[.slice (some ⟨blk, off, none⟩) n cap] w1 fun e w' => ∃ p c, e = .returned (.tuple #[.agg #[.int .i64 y0, .int .i64 y1], .slice p nR c, .nilIface]) ∧ SlE EN w' (.slice p nR c) R ∧ Below w1.heap.size w1 w' := fun w1 hb =>
              (leanPop_good _ xs y0 y1 a b w1 (hs0.below hb) ht).mono fun e w' q => by rw [← hR]; exact told_slice (f := fun v => .tuple #[.agg #[.int .i64 y0, .int .i64 y1], v, .nilIface]) hnR q
            have cNR := cN R nR hRl
            have cHL : ∀ w1, Below B.heap.size B w1 → w1.cell? ⟨blk, off, none⟩ = some (.int .i64 y0) ∧ w1.cell? ⟨blk, off + 1, none⟩ = some (.int .i64 y1) := fun w1 hb => by
              have hx : xs[0]? = some (y0, y1, LT.place 1 a, LT.place (1 + a.size) b) := by rw [e5]; simp [LT.enc]
              have := (hr.below hb hr.1).node hx
              simp only [Nat.zero_mul, Nat.add_zero] at this
              exact ⟨this.1, this.2.1⟩
            subst hB
            exact leanSays_9 p' n cap n' cap' m m2 m3 nR blk off x0 x1 y0 y1 R w (by omega) (by omega) (by rw [IntKind.wrap_i64]; omega) (by omega) (beq_eq_false_iff_ne.2 (by omega)) (by omega) cHL cE0 cN0 cRA cK cSP cRB (cE 4) cM cRX (cE 1) cP cRO cO cNR
        | false =>
          obtain ⟨m3, hm3⟩ : ∃ m3, (LT.node x0 x1 .nil .nil).spine = m3 := ⟨_, rfl⟩
          have cRX := cX 0 m3 (by rw [← hm3]; exact (alone_isL ho).says)
          by_cases hf : n = 60
          · have cP := fun w1 (hb : Below B.heap.size B w1) => leanPush_bad _ x0 x1 xs 4 w1 (hs0.below hb) (by omega) (Or.inr ⟨t, ht, Or.inr ⟨_, alone_isL ho, by rw [htn]; simp [LT.size]; omega, rfl⟩⟩)
            cases t using LT.parts with
            | nil => exact absurd htn (by simp [LT.size]; omega)
            | node y0 y1 a b =>
              obtain ⟨blk, off, rfl, _, _, hr⟩ := hs0.some (by omega)
              obtain ⟨R, hR⟩ : ∃ D, LT.enc 0 (LT.meld a b) = D := ⟨_, rfl⟩
              obtain ⟨nR, hnR⟩ : ∃ N, (LT.meld a b).size = N := ⟨_, rfl⟩
              have hRl : R.length ≤ 1000 := by have h1 := htn; simp only [LT.size] at h1; rw [← hR, LT.enc_length, LT.meld_size]; omega
              have e5 := ht.enc
              have cRO : ∀ w1, Below B.heap.size B w1 → Calls Tryd.prog 16 #[.slice (some ⟨blk, off, none⟩) n cap] w1 fun e w' => ∃ u, e = .returned u ∧ OwnE EN w' w1.heap.size u R ∧ Below w1.heap.size w1 w' := fun w1 hb => by
                rw [← hR]
                exact refLeanPop_any blk off n cap y0 y1 a b w1 h60 (show _ = _ by simpa only [LT.size] using htn) ht.leans ht.inR (by rw [e5] at hr; exact hr.below hb hr.1)
              have cO : ∀ w1, Below B.heap.size B w1 → Calls Tryd.prog 17 #[.slice (some ⟨blk, off, none⟩) n cap] w1 fun e w' => ∃ p c, e = .returned (.tuple #[.agg #[.int .i64 y0, .int .i64 y1], .slice p nR c, .nilIface]) ∧ SlE EN w' (.slice p nR c) R ∧ Below w1.heap.size w1 w' := fun w1 hb =>
                (leanPop_good _ xs y0 y1 a b w1 (hs0.below hb) ht).mono fun e w' q => by rw [← hR]; exact told_slice (f := fun v => .tuple #[.agg #[.int .i64 y0, .int .i64 y1], v, .nilIface]) hnR q
              have cNR := cN R nR hRl
              have cHL : ∀ w1, Below B.heap.size B w1 → w1.cell? ⟨blk, off, none⟩ = some (.int .i64 y0) ∧ w1.cell? ⟨blk, off + 1, none⟩ = some (.int .i64 y1) := fun w1 hb => by
                have hx : xs[0]? = some (y0, y1, LT.place 1 a, LT.place (1 + a.size) b) := by rw [e5]; simp [LT.enc]
                have := (hr.below hb hr.1).node hx
                simp only [Nat.zero_mul, Nat.add_zero] at this
                exact ⟨this.1, this.2.1⟩
              obtain rfl : n = 60 := hf
              subst hB
              exact leanSays_10 p' cap n' cap' m m2 m3 nR blk off x0 x1 y0 y1 R w (by omega) (by rw [IntKind.wrap_i64]; omega) (by omega) cHL cE0 cN0 cRA cK cSP cRB (cE 4) cM cRX cP cRO cO cNR
          · obtain ⟨nP, hnP⟩ : ∃ N, (LT.meld t (.node x0 x1 .nil .nil)).size = N := ⟨_, rfl⟩
            obtain ⟨DP, hDP⟩ : ∃ D, LT.enc 0 (LT.meld t (.node x0 x1 .nil .nil)) = D := ⟨_, rfl⟩
            have hal := alone_isL ho
            have hDPl : DP.length ≤ 1000 := by rw [← hDP, LT.enc_length, LT.meld_size]; simp [LT.size]; omega
            have e3 := ht.enc
            have e4 := hal.enc
            have cRP : ∀ w1 g, Below B.heap.size B w1 → SlE EN w1 (.slice (some ⟨g, 0, none⟩) 1 1) (aloneN x0 x1) → Calls Tryd.prog 12 #[.slice p n cap, .slice (some ⟨g, 0, none⟩) 1 1] w1 fun e w' => ∃ u, e = .returned u ∧ SlE EN w' u DP ∧ Below w1.heap.size w1 w' := fun w1 g hb hl =>
              (refMeld_any t (.node x0 x1 .nil .nil) _ _ w1 (by simp [LT.size]; omega) ht.leans hal.leans ht.inR hal.inR (by rw [← e3]; exact hs0.below hb) (by rw [← e4]; exact hl)).mono fun e w' ⟨u, a, b, c⟩ => ⟨u, a, by rw [← hDP]; exact b.sl, c⟩
            have cP : ∀ w1, Below B.heap.size B w1 → Calls Tryd.prog 15 #[.slice p n cap, .agg #[.int .i64 x0, .int .i64 x1]] w1 fun e w' => ∃ p c, e = .returned (.tuple #[.slice p nP c, .nilIface]) ∧ SlE EN w' (.slice p nP c) DP ∧ Below w1.heap.size w1 w' := fun w1 hb =>
              (leanPush_good _ x0 x1 xs t w1 (hs0.below hb) ht ho (by omega)).mono fun e w' q => by rw [← hDP]; exact told_slice (f := fun v => .tuple #[v, .nilIface]) hnP q
            have cNP := cN DP nP hDPl
            cases t using LT.parts with
            | nil => exact absurd htn (by simp [LT.size]; omega)
            | node y0 y1 a b =>
              obtain ⟨blk, off, rfl, _, _, hr⟩ := hs0.some (by omega)
              obtain ⟨R, hR⟩ : ∃ D, LT.enc 0 (LT.meld a b) = D := ⟨_, rfl⟩
              obtain ⟨nR, hnR⟩ : ∃ N, (LT.meld a b).size = N := ⟨_, rfl⟩
              have hRl : R.length ≤ 1000 := by have h1 := htn; simp only [LT.size] at h1; rw [← hR, LT.enc_length, LT.meld_size]; omega
              have e5 := ht.enc
              have cRO : ∀ w1, Below B.heap.size B w1 → Calls Tryd.prog 16 #[.slice (some ⟨blk, off, none⟩) n cap] w1 fun e w' => ∃ u, e = .returned u ∧ OwnE EN w' w1.heap.size u R ∧ Below w1.heap.size w1 w' := fun w1 hb => by
                rw [← hR]
                exact refLeanPop_any blk off n cap y0 y1 a b w1 h60 (show _ = _ by simpa only [LT.size] using htn) ht.leans ht.inR (by rw [e5] at hr; exact hr.below hb hr.1)
              have cO : ∀ w1, Below B.heap.size B w1 → Calls Tryd.prog 17 #[.slice (some ⟨blk, off, none⟩) n cap] w1 fun e w' => ∃ p c, e = .returned (.tuple #[.agg #[.int .i64 y0, .int .i64 y1], .slice p nR c, .nilIface]) ∧ SlE EN w' (.slice p nR c) R ∧ Below w1.heap.size w1 w' := fun w1 hb =>
                (leanPop_good _ xs y0 y1 a b w1 (hs0.below hb) ht).mono fun e w' q => by rw [← hR]; exact told_slice (f := fun v => .tuple #[.agg #[.int .i64 y0, .int .i64 y1], v, .nilIface]) hnR q
              have cNR := cN R nR hRl
              have cHL : ∀ w1, Below B.heap.size B w1 → w1.cell? ⟨blk, off, none⟩ = some (.int .i64 y0) ∧ w1.cell? ⟨blk, off + 1, none⟩ = some (.int .i64 y1) := fun w1 hb => by
                have hx : xs[0]? = some (y0, y1, LT.place 1 a, LT.place (1 + a.size) b) := by rw [e5]; simp [LT.enc]
                have := (hr.below hb hr.1).node hx
                simp only [Nat.zero_mul, Nat.add_zero] at this
                exact ⟨this.1, this.2.1⟩
              subst hB
              exact leanSays_11 p' n cap n' cap' m m2 m3 nP nR blk off x0 x1 y0 y1 DP R w (by omega) (by omega) (by rw [IntKind.wrap_i64]; omega) (by omega) (beq_eq_false_iff_ne.2 (by omega)) (beq_eq_false_iff_ne.2 (by omega)) (by omega) cHL cE0 cN0 cRA cK cSP cRB (cE 4) cM cRX cRP cP cNP cRO cO cNR
      · obtain ⟨nM, hnM⟩ : ∃ N, (LT.meld t t').size = N := ⟨_, rfl⟩
        obtain ⟨DM, hDM⟩ : ∃ D, LT.enc 0 (LT.meld t t') = D := ⟨_, rfl⟩
        have hDMl : DM.length ≤ 1000 := by rw [← hDM, LT.enc_length, LT.meld_size]; omega
        have e1 := ht.enc
        have e2 := ht'.enc
        have cRM : ∀ w1, Below B.heap.size B w1 → Calls Tryd.prog 12 #[.slice p n cap, .slice p' n' cap'] w1 fun e w' => ∃ u, e = .returned u ∧ SlE EN w' u DM ∧ Below w1.heap.size w1 w' := fun w1 hb =>
          (refMeld_any t t' _ _ w1 (by omega) ht.leans ht'.leans ht.inR ht'.inR (by rw [← e1]; exact hs0.below hb) (by rw [← e2]; exact hs0'.below hb)).mono fun e w' ⟨u, a, b, c⟩ => ⟨u, a, by rw [← hDM]; exact b.sl, c⟩
        have cM : ∀ w1, Below B.heap.size B w1 → Calls Tryd.prog 13 #[.slice p n cap, .slice p' n' cap'] w1 fun e w' => ∃ p c, e = .returned (.tuple #[.slice p nM c, .nilIface]) ∧ SlE EN w' (.slice p nM c) DM ∧ Below w1.heap.size w1 w' := fun w1 hb =>
          (leanMeld_good _ _ xs ys t t' w1 (hs0.below hb) (hs0'.below hb) ht ht' (by omega)).mono fun e w' q => by rw [← hDM]; exact told_slice (f := fun v => .tuple #[v, .nilIface]) hnM q
        have cNM := cN DM nM hDMl
        cases ho : outB (x0, x1) with
        | true =>
          obtain ⟨m3, hm3⟩ : ∃ m3, (0 : Nat) = m3 := ⟨_, rfl⟩
          have cRX := cX 1 m3 (by rw [← hm3]; exact alone_says ho)
          have cP := fun w1 (hb : Below B.heap.size B w1) => leanPush_bad _ x0 x1 xs 1 w1 (hs0.below hb) (by omega) (Or.inr ⟨t, ht, Or.inl ⟨by decide, alone_says ho⟩⟩)
          by_cases hn0 : n = 0
          · obtain rfl : n = 0 := hn0
            have hx0 : xs = [] := List.eq_nil_of_length_eq_zero hn
            have cO := fun w1 (hb : Below B.heap.size B w1) => leanPop_bad _ xs 5 w1 (hs0.below hb) (by omega) (Or.inr ⟨hx0, rfl⟩)
            subst hB
            exact leanSays_4 p p' cap n' cap' m m2 nM m3 x0 x1 DM w (by omega) (by rw [IntKind.wrap_i64]; omega) (by omega) cE0 cN0 cRA cK cSP cRB cRM cM cNM cRX (cE 1) cP (cE 5) cO
          · cases t using LT.parts with
            | nil => exact absurd htn (by simp [LT.size]; omega)
            | node y0 y1 a b =>
              obtain ⟨blk, off, rfl, _, _, hr⟩ := hs0.some (by omega)
              obtain ⟨R, hR⟩ : ∃ D, LT.enc 0 (LT.meld a b) = D := ⟨_, rfl⟩
              obtain ⟨nR, hnR⟩ : ∃ N, (LT.meld a b).size = N := ⟨_, rfl⟩
              have hRl : R.length ≤ 1000 := by have h1 := htn; simp only [LT.size] at h1; rw [← hR, LT.enc_length, LT.meld_size]; omega
              have e5 := ht.enc
              have cRO : ∀ w1, Below B.heap.size B w1 → Calls Tryd.prog 16 #[.slice (some ⟨blk, off, none⟩) n cap] w1 fun e w' => ∃ u, e = .returned u ∧ OwnE EN w' w1.heap.size u R ∧ Below w1.heap.size w1 w' := fun w1 hb => by
                rw [← hR]
                exact refLeanPop_any blk off n cap y0 y1 a b w1 h60 (show _ = _ by simpa only [LT.size] using htn) ht.leans ht.inR (by rw [e5] at hr; exact hr.below hb hr.1)
              have cO : ∀ w1, Below B.heap.size B w1 → Calls Tryd.prog 17 #[.slice (some ⟨blk, off, none⟩) n cap] w1 fun e w' => ∃ p c, e = .returned (.tuple #[.agg #[.int .i64 y0, .int .i64 y1], .slice p nR c, .nilIface]) ∧ SlE EN w' (.slice p nR c) R ∧ Below w1.heap.size w1 w' := fun w1 hb =>
                (leanPop_good _ xs y0 y1 a b w1 (hs0.below hb) ht).mono fun e w' q => by rw [← hR]; exact told_slice (f := fun v => .tuple #[.agg #[.int .i64 y0, .int .i64 y1], v, .nilIface]) hnR q
              have cNR := cN R nR hRl
              have cHL : ∀ w1, Below B.heap.size B w1 → w1.cell? ⟨blk, off, none⟩ = some (.int .i64 y0) ∧ w1.cell? ⟨blk, off + 1, none⟩ = some (.int .i64 y1) := fun w1 hb => by
                have hx : xs[0]? = some (y0, y1, LT.place 1 a, LT.place (1 + a.size) b) := by rw [e5]; simp [LT.enc]
                have := (hr.below hb hr.1).node hx
                simp only [Nat.zero_mul, Nat.add_zero] at this
                exact ⟨this.1, this.2.1⟩
              subst hB
              exact leanSays_12 p' n cap n' cap' m m2 nM m3 nR blk off x0 x1 y0 y1 DM R w (by omega) (by omega) (by rw [IntKind.wrap_i64]; omega) (by omega) (beq_eq_false_iff_ne.2 (by omega)) (by omega) cHL cE0 cN0 cRA cK cSP cRB cRM cM cNM cRX (cE 1) cP cRO cO cNR
        | false =>
          obtain ⟨m3, hm3⟩ : ∃ m3, (LT.node x0 x1 .nil .nil).spine = m3 := ⟨_, rfl⟩
          have cRX := cX 0 m3 (by rw [← hm3]; exact (alone_isL ho).says)
          by_cases hf : n = 60
          · have cP := fun w1 (hb : Below B.heap.size B w1) => leanPush_bad _ x0 x1 xs 4 w1 (hs0.below hb) (by omega) (Or.inr ⟨t, ht, Or.inr ⟨_, alone_isL ho, by rw [htn]; simp [LT.size]; omega, rfl⟩⟩)
            cases t using LT.parts with
            | nil => exact absurd htn (by simp [LT.size]; omega)
            | node y0 y1 a b =>
              obtain ⟨blk, off, rfl, _, _, hr⟩ := hs0.some (by omega)
              obtain ⟨R, hR⟩ : ∃ D, LT.enc 0 (LT.meld a b) = D := ⟨_, rfl⟩
              obtain ⟨nR, hnR⟩ : ∃ N, (LT.meld a b).size = N := ⟨_, rfl⟩
              have hRl : R.length ≤ 1000 := by have h1 := htn; simp only [LT.size] at h1; rw [← hR, LT.enc_length, LT.meld_size]; omega
              have e5 := ht.enc
              have cRO : ∀ w1, Below B.heap.size B w1 → Calls Tryd.prog 16 #[.slice (some ⟨blk, off, none⟩) n cap] w1 fun e w' => ∃ u, e = .returned u ∧ OwnE EN w' w1.heap.size u R ∧ Below w1.heap.size w1 w' := fun w1 hb => by
                rw [← hR]
                exact refLeanPop_any blk off n cap y0 y1 a b w1 h60 (show _ = _ by simpa only [LT.size] using htn) ht.leans ht.inR (by rw [e5] at hr; exact hr.below hb hr.1)
              have cO : ∀ w1, Below B.heap.size B w1 → Calls Tryd.prog 17 #[.slice (some ⟨blk, off, none⟩) n cap] w1 fun e w' => ∃ p c, e = .returned (.tuple #[.agg #[.int .i64 y0, .int .i64 y1], .slice p nR c, .nilIface]) ∧ SlE EN w' (.slice p nR c) R ∧ Below w1.heap.size w1 w' := fun w1 hb =>
                (leanPop_good _ xs y0 y1 a b w1 (hs0.below hb) ht).mono fun e w' q => by rw [← hR]; exact told_slice (f := fun v => .tuple #[.agg #[.int .i64 y0, .int .i64 y1], v, .nilIface]) hnR q
              have cNR := cN R nR hRl
              have cHL : ∀ w1, Below B.heap.size B w1 → w1.cell? ⟨blk, off, none⟩ = some (.int .i64 y0) ∧ w1.cell? ⟨blk, off + 1, none⟩ = some (.int .i64 y1) := fun w1 hb => by
                have hx : xs[0]? = some (y0, y1, LT.place 1 a, LT.place (1 + a.size) b) := by rw [e5]; simp [LT.enc]
                have := (hr.below hb hr.1).node hx
                simp only [Nat.zero_mul, Nat.add_zero] at this
                exact ⟨this.1, this.2.1⟩
              obtain rfl : n = 60 := hf
              obtain rfl : n' = 0 := by omega
              subst hB
              exact leanSays_13 p' cap cap' m m2 nM m3 nR blk off x0 x1 y0 y1 DM R w cHL cE0 cN0 cRA cK cSP cRB cRM cM cNM cRX (cE 4) cP cRO cO cNR
          · obtain ⟨nP, hnP⟩ : ∃ N, (LT.meld t (.node x0 x1 .nil .nil)).size = N := ⟨_, rfl⟩
            obtain ⟨DP, hDP⟩ : ∃ D, LT.enc 0 (LT.meld t (.node x0 x1 .nil .nil)) = D := ⟨_, rfl⟩
            have hal := alone_isL ho
            have hDPl : DP.length ≤ 1000 := by rw [← hDP, LT.enc_length, LT.meld_size]; simp [LT.size]; omega
            have e3 := ht.enc
            have e4 := hal.enc
            have cRP : ∀ w1 g, Below B.heap.size B w1 → SlE EN w1 (.slice (some ⟨g, 0, none⟩) 1 1) (aloneN x0 x1) → Calls Tryd.prog 12 #[.slice p n cap, .slice (some ⟨g, 0, none⟩) 1 1] w1 fun e w' => ∃ u, e = .returned u ∧ SlE EN w' u DP ∧ Below w1.heap.size w1 w' := fun w1 g hb hl =>
              (refMeld_any t (.node x0 x1 .nil .nil) _ _ w1 (by simp [LT.size]; omega) ht.leans hal.leans ht.inR hal.inR (by rw [← e3]; exact hs0.below hb) (by rw [← e4]; exact hl)).mono fun e w' ⟨u, a, b, c⟩ => ⟨u, a, by rw [← hDP]; exact b.sl, c⟩
            have cP : ∀ w1, Below B.heap.size B w1 → Calls Tryd.prog 15 #[.slice p n cap, .agg #[.int .i64 x0, .int .i64 x1]] w1 fun e w' => ∃ p c, e = .returned (.tuple #[.slice p nP c, .nilIface]) ∧ SlE EN w' (.slice p nP c) DP ∧ Below w1.heap.size w1 w' := fun w1 hb =>
              (leanPush_good _ x0 x1 xs t w1 (hs0.below hb) ht ho (by omega)).mono fun e w' q => by rw [← hDP]; exact told_slice (f := fun v => .tuple #[v, .nilIface]) hnP q
            have cNP := cN DP nP hDPl
            by_cases hn0 : n = 0
            · obtain rfl : n = 0 := hn0
              have hx0 : xs = [] := List.eq_nil_of_length_eq_zero hn
              have cO := fun w1 (hb : Below B.heap.size B w1) => leanPop_bad _ xs 5 w1 (hs0.below hb) (by omega) (Or.inr ⟨hx0, rfl⟩)
              subst hB
              exact leanSays_5 p p' cap n' cap' m m2 nM m3 nP x0 x1 DM DP w (by omega) (by rw [IntKind.wrap_i64]; omega) (by omega) cE0 cN0 cRA cK cSP cRB cRM cM cNM cRX cRP cP cNP (cE 5) cO
            · cases t using LT.parts with
              | nil => exact absurd htn (by simp [LT.size]; omega)
              | node y0 y1 a b =>
                obtain ⟨blk, off, rfl, _, _, hr⟩ := hs0.some (by omega)
                obtain ⟨R, hR⟩ : ∃ D, LT.enc 0 (LT.meld a b) = D := ⟨_, rfl⟩
                obtain ⟨nR, hnR⟩ : ∃ N, (LT.meld a b).size = N := ⟨_, rfl⟩
                have hRl : R.length ≤ 1000 := by have h1 := htn; simp only [LT.size] at h1; rw [← hR, LT.enc_length, LT.meld_size]; omega
                have e5 := ht.enc
                have cRO : ∀ w1, Below B.heap.size B w1 → Calls Tryd.prog 16 #[.slice (some ⟨blk, off, none⟩) n cap] w1 fun e w' => ∃ u, e = .returned u ∧ OwnE EN w' w1.heap.size u R ∧ Below w1.heap.size w1 w' := fun w1 hb => by
                  rw [← hR]
                  exact refLeanPop_any blk off n cap y0 y1 a b w1 h60 (show _ = _ by simpa only [LT.size] using htn) ht.leans ht.inR (by rw [e5] at hr; exact hr.below hb hr.1)
                have cO : ∀ w1, Below B.heap.size B w1 → Calls Tryd.prog 17 #[.slice (some ⟨blk, off, none⟩) n cap] w1 fun e w' => ∃ p c, e = .returned (.tuple #[.agg #[.int .i64 y0, .int .i64 y1], .slice p nR c, .nilIface]) ∧ SlE EN w' (.slice p nR c) R ∧ Below w1.heap.size w1 w' := fun w1 hb =>
                  (leanPop_good _ xs y0 y1 a b w1 (hs0.below hb) ht).mono fun e w' q => by rw [← hR]; exact told_slice (f := fun v => .tuple #[.agg #[.int .i64 y0, .int .i64 y1], v, .nilIface]) hnR q
                have cNR := cN R nR hRl
                have cHL : ∀ w1, Below B.heap.size B w1 → w1.cell? ⟨blk, off, none⟩ = some (.int .i64 y0) ∧ w1.cell? ⟨blk, off + 1, none⟩ = some (.int .i64 y1) := fun w1 hb => by
                  have hx : xs[0]? = some (y0, y1, LT.place 1 a, LT.place (1 + a.size) b) := by rw [e5]; simp [LT.enc]
                  have := (hr.below hb hr.1).node hx
                  simp only [Nat.zero_mul, Nat.add_zero] at this
                  exact ⟨this.1, this.2.1⟩
                subst hB
                exact leanSays_14 p' n cap n' cap' m m2 nM m3 nP nR blk off x0 x1 y0 y1 DM DP R w (by omega) (by omega) (by rw [IntKind.wrap_i64]; omega) (by omega) (beq_eq_false_iff_ne.2 (by omega)) (beq_eq_false_iff_ne.2 (by omega)) (by omega) cHL cE0 cRA cK cSP cRB cRM cM cNM cRX cRP cP cNP cRO cO cNR
    · obtain ⟨m2, hm2⟩ : ∃ m, (0 : Nat) = m := ⟨_, rfl⟩
      have cRB := cL' g m2 (by rw [← hm2]; exact hg)
      have cM := fun w1 (hb : Below B.heap.size B w1) => leanMeld_bad _ _ xs ys g w1 (hs0.below hb) (hs0'.below hb) (by omega) (by omega) (Or.inr ⟨t, ht, Or.inl ⟨hg0, hg⟩⟩)
      cases ho : outB (x0, x1) with
      | true =>
        obtain ⟨m3, hm3⟩ : ∃ m3, (0 : Nat) = m3 := ⟨_, rfl⟩
        have cRX := cX 1 m3 (by rw [← hm3]; exact alone_says ho)
        have cP := fun w1 (hb : Below B.heap.size B w1) => leanPush_bad _ x0 x1 xs 1 w1 (hs0.below hb) (by omega) (Or.inr ⟨t, ht, Or.inl ⟨by decide, alone_says ho⟩⟩)
        by_cases hn0 : n = 0
        · obtain rfl : n = 0 := hn0
          have hx0 : xs = [] := List.eq_nil_of_length_eq_zero hn
          have cO := fun w1 (hb : Below B.heap.size B w1) => leanPop_bad _ xs 5 w1 (hs0.below hb) (by omega) (Or.inr ⟨hx0, rfl⟩)
          have cEg := cE g
          rw [errV_pos hg0] at cEg
          subst hB
          exact leanSays_2 p p' cap n' cap' m g m2 m3 x0 x1 w (by omega) (nat_eq hg0) cE0 cN0 cRA cK cSP cRB cEg cM cRX (cE 1) cP (cE 5) cO
        · cases t using LT.parts with
          | nil => exact absurd htn (by simp [LT.size]; omega)
          | node y0 y1 a b =>
            obtain ⟨blk, off, rfl, _, _, hr⟩ := hs0.some (by omega)
            obtain ⟨R, hR⟩ : ∃ D, LT.enc 0 (LT.meld a b) = D := ⟨_, rfl⟩
            obtain ⟨nR, hnR⟩ : ∃ N, (LT.meld a b).size = N := ⟨_, rfl⟩
            have hRl : R.length ≤ 1000 := by have h1 := htn; simp only [LT.size] at h1; rw [← hR, LT.enc_length, LT.meld_size]; omega
            have e5 := ht.enc
            have cRO : ∀ w1, Below B.heap.size B w1 → Calls Tryd.prog 16 #[.slice (some ⟨blk, off, none⟩) n cap] w1 fun e w' => ∃ u, e = .returned u ∧ OwnE EN w' w1.heap.size u R ∧ Below w1.heap.size w1 w' := fun w1 hb => by
              rw [← hR]
              exact refLeanPop_any blk off n cap y0 y1 a b w1 h60 (show _ = _ by simpa only [LT.size] using htn) ht.leans ht.inR (by rw [e5] at hr; exact hr.below hb hr.1)
            have cO : ∀ w1, Below B.heap.size B w1 → Calls Tryd.prog 17 #[.slice (some ⟨blk, off, none⟩) n cap] w1 fun e w' => ∃ p c, e = .returned (.tuple #[.agg #[.int .i64 y0, .int .i64 y1], .slice p nR c, .nilIface]) ∧ SlE EN w' (.slice p nR c) R ∧ Below w1.heap.size w1 w' := fun w1 hb =>
              (leanPop_good _ xs y0 y1 a b w1 (hs0.below hb) ht).mono fun e w' q => by rw [← hR]; exact told_slice (f := fun v => .tuple #[.agg #[.int .i64 y0, .int .i64 y1], v, .nilIface]) hnR q
            have cNR := cN R nR hRl
            have cHL : ∀ w1, Below B.heap.size B w1 → w1.cell? ⟨blk, off, none⟩ = some (.int .i64 y0) ∧ w1.cell? ⟨blk, off + 1, none⟩ = some (.int .i64 y1) := fun w1 hb => by
              have hx : xs[0]? = some (y0, y1, LT.place 1 a, LT.place (1 + a.size) b) := by rw [e5]; simp [LT.enc]
              have := (hr.below hb hr.1).node hx
              simp only [Nat.zero_mul, Nat.add_zero] at this
              exact ⟨this.1, this.2.1⟩
            have cEg := cE g
            rw [errV_pos hg0] at cEg
            subst hB
            exact leanSays_6 p' n cap n' cap' m g m2 m3 nR blk off x0 x1 y0 y1 R w (by omega) (by omega) (nat_eq hg0) (beq_eq_false_iff_ne.2 (by omega)) (by omega) cHL cE0 cN0 cRA cK cSP cRB cEg cM cRX (cE 1) cP cRO cO cNR
      | false =>
        obtain ⟨m3, hm3⟩ : ∃ m3, (LT.node x0 x1 .nil .nil).spine = m3 := ⟨_, rfl⟩
        have cRX := cX 0 m3 (by rw [← hm3]; exact (alone_isL ho).says)
        by_cases hf : n = 60
        · have cP := fun w1 (hb : Below B.heap.size B w1) => leanPush_bad _ x0 x1 xs 4 w1 (hs0.below hb) (by omega) (Or.inr ⟨t, ht, Or.inr ⟨_, alone_isL ho, by rw [htn]; simp [LT.size]; omega, rfl⟩⟩)
          cases t using LT.parts with
          | nil => exact absurd htn (by simp [LT.size]; omega)
          | node y0 y1 a b =>
            obtain ⟨blk, off, rfl, _, _, hr⟩ := hs0.some (by omega)
            obtain ⟨R, hR⟩ : ∃ D, LT.enc 0 (LT.meld a b) = D := ⟨_, rfl⟩
            obtain ⟨nR, hnR⟩ : ∃ N, (LT.meld a b).size = N := ⟨_, rfl⟩
            have hRl : R.length ≤ 1000 := by have h1 := htn; simp only [LT.size] at h1; rw [← hR, LT.enc_length, LT.meld_size]; omega
            have e5 := ht.enc
            have cRO : ∀ w1, Below B.heap.size B w1 → Calls Tryd.prog 16 #[.slice (some ⟨blk, off, none⟩) n cap] w1 fun e w' => ∃ u, e = .returned u ∧ OwnE EN w' w1.heap.size u R ∧ Below w1.heap.size w1 w' := fun w1 hb => by
              rw [← hR]
              exact refLeanPop_any blk off n cap y0 y1 a b w1 h60 (show _ = _ by simpa only [LT.size] using htn) ht.leans ht.inR (by rw [e5] at hr; exact hr.below hb hr.1)
            have cO : ∀ w1, Below B.heap.size B w1 → Calls Tryd.prog 17 #[.slice (some ⟨blk, off, none⟩) n cap] w1 fun e w' => ∃ p c, e = .returned (.tuple #[.agg #[.int .i64 y0, .int .i64 y1], .slice p nR c, .nilIface]) ∧ SlE EN w' (.slice p nR c) R ∧ Below w1.heap.size w1 w' := fun w1 hb =>
              (leanPop_good _ xs y0 y1 a b w1 (hs0.below hb) ht).mono fun e w' q => by rw [← hR]; exact told_slice (f := fun v => .tuple #[.agg #[.int .i64 y0, .int .i64 y1], v, .nilIface]) hnR q
            have cNR := cN R nR hRl
            have cHL : ∀ w1, Below B.heap.size B w1 → w1.cell? ⟨blk, off, none⟩ = some (.int .i64 y0) ∧ w1.cell? ⟨blk, off + 1, none⟩ = some (.int .i64 y1) := fun w1 hb => by
              have hx : xs[0]? = some (y0, y1, LT.place 1 a, LT.place (1 + a.size) b) := by rw [e5]; simp [LT.enc]
              have := (hr.below hb hr.1).node hx
              simp only [Nat.zero_mul, Nat.add_zero] at this
              exact ⟨this.1, this.2.1⟩
            obtain rfl : n = 60 := hf
            have cEg := cE g
            rw [errV_pos hg0] at cEg
            subst hB
            exact leanSays_7 p' cap n' cap' m g m2 m3 nR blk off x0 x1 y0 y1 R w (by omega) (nat_eq hg0) cHL cE0 cN0 cRA cK cSP cRB cEg cM cRX (cE 4) cP cRO cO cNR
        · obtain ⟨nP, hnP⟩ : ∃ N, (LT.meld t (.node x0 x1 .nil .nil)).size = N := ⟨_, rfl⟩
          obtain ⟨DP, hDP⟩ : ∃ D, LT.enc 0 (LT.meld t (.node x0 x1 .nil .nil)) = D := ⟨_, rfl⟩
          have hal := alone_isL ho
          have hDPl : DP.length ≤ 1000 := by rw [← hDP, LT.enc_length, LT.meld_size]; simp [LT.size]; omega
          have e3 := ht.enc
          have e4 := hal.enc
          have cRP : ∀ w1 g, Below B.heap.size B w1 → SlE EN w1 (.slice (some ⟨g, 0, none⟩) 1 1) (aloneN x0 x1) → Calls Tryd.prog 12 #[.slice p n cap, .slice (some ⟨g, 0, none⟩) 1 1] w1 fun e w' => ∃ u, e = .returned u ∧ SlE EN w' u DP ∧ Below w1.heap.size w1 w' := fun w1 g hb hl =>
            (refMeld_any t (.node x0 x1 .nil .nil) _ _ w1 (by simp [LT.size]; omega) ht.leans hal.leans ht.inR hal.inR (by rw [← e3]; exact hs0.below hb) (by rw [← e4]; exact hl)).mono fun e w' ⟨u, a, b, c⟩ => ⟨u, a, by rw [← hDP]; exact b.sl, c⟩
          have cP : ∀ w1, Below B.heap.size B w1 → Calls Tryd.prog 15 #[.slice p n cap, .agg #[.int .i64 x0, .int .i64 x1]] w1 fun e w' => ∃ p c, e = .returned (.tuple #[.slice p nP c, .nilIface]) ∧ SlE EN w' (.slice p nP c) DP ∧ Below w1.heap.size w1 w' := fun w1 hb =>
            (leanPush_good _ x0 x1 xs t w1 (hs0.below hb) ht ho (by omega)).mono fun e w' q => by rw [← hDP]; exact told_slice (f := fun v => .tuple #[v, .nilIface]) hnP q
          have cNP := cN DP nP hDPl
          by_cases hn0 : n = 0
          · obtain rfl : n = 0 := hn0
            have hx0 : xs = [] := List.eq_nil_of_length_eq_zero hn
            have cO := fun w1 (hb : Below B.heap.size B w1) => leanPop_bad _ xs 5 w1 (hs0.below hb) (by omega) (Or.inr ⟨hx0, rfl⟩)
            have cEg := cE g
            rw [errV_pos hg0] at cEg
            subst hB
            exact leanSays_3 p p' cap n' cap' m g m2 m3 nP x0 x1 DP w (by omega) (nat_eq hg0) cE0 cN0 cRA cK cSP cRB cEg cM cRX cRP cP cNP (cE 5) cO
          · cases t using LT.parts with
            | nil => exact absurd htn (by simp [LT.size]; omega)
            | node y0 y1 a b =>
              obtain ⟨blk, off, rfl, _, _, hr⟩ := hs0.some (by omega)
              obtain ⟨R, hR⟩ : ∃ D, LT.enc 0 (LT.meld a b) = D := ⟨_, rfl⟩
              obtain ⟨nR, hnR⟩ : ∃ N, (LT.meld a b).size = N := ⟨_, rfl⟩
              have hRl : R.length ≤ 1000 := by have h1 := htn; simp only [LT.size] at h1; rw [← hR, LT.enc_length, LT.meld_size]; omega
              have e5 := ht.enc
              have cRO : ∀ w1, Below B.heap.size B w1 → Calls Tryd.prog 16 #[.slice (some ⟨blk, off, none⟩) n cap] w1 fun e w' => ∃ u, e = .returned u ∧ OwnE EN w' w1.heap.size u R ∧ Below w1.heap.size w1 w' := fun w1 hb => by
                rw [← hR]
                exact refLeanPop_any blk off n cap y0 y1 a b w1 h60 (show _ = _ by simpa only [LT.size] using htn) ht.leans ht.inR (by rw [e5] at hr; exact hr.below hb hr.1)
              have cO : ∀ w1, Below B.heap.size B w1 → Calls Tryd.prog 17 #[.slice (some ⟨blk, off, none⟩) n cap] w1 fun e w' => ∃ p c, e = .returned (.tuple #[.agg #[.int .i64 y0, .int .i64 y1], .slice p nR c, .nilIface]) ∧ SlE EN w' (.slice p nR c) R ∧ Below w1.heap.size w1 w' := fun w1 hb =>
                (leanPop_good _ xs y0 y1 a b w1 (hs0.below hb) ht).mono fun e w' q => by rw [← hR]; exact told_slice (f := fun v => .tuple #[.agg #[.int .i64 y0, .int .i64 y1], v, .nilIface]) hnR q
              have cNR := cN R nR hRl
              have cHL : ∀ w1, Below B.heap.size B w1 → w1.cell? ⟨blk, off, none⟩ = some (.int .i64 y0) ∧ w1.cell? ⟨blk, off + 1, none⟩ = some (.int .i64 y1) := fun w1 hb => by
                have hx : xs[0]? = some (y0, y1, LT.place 1 a, LT.place (1 + a.size) b) := by rw [e5]; simp [LT.enc]
                have := (hr.below hb hr.1).node hx
                simp only [Nat.zero_mul, Nat.add_zero] at this
                exact ⟨this.1, this.2.1⟩
              have cEg := cE g
              rw [errV_pos hg0] at cEg
              subst hB
              exact leanSays_8 p' n cap n' cap' m g m2 m3 nP nR blk off x0 x1 y0 y1 DP R w (by omega) (by omega) (nat_eq hg0) (beq_eq_false_iff_ne.2 (by omega)) (beq_eq_false_iff_ne.2 (by omega)) (by omega) cHL cE0 cN0 cRA cK cSP cRB cEg cM cRX cRP cP cNP cRO cO cNR
  · obtain ⟨g, m2, hg⟩ := says_some ys
    obtain ⟨c, m3, hc⟩ := says_some (aloneN x0 x1)
    have cRA := cL k 0 hk
    have cK := fun w1 (hb : Below B.heap.size B w1) => leanCheck_bad _ xs k w1 (hs0.below hb) hk0 hk (by omega)
    have cSP := fun w1 (hb : Below B.heap.size B w1) => leanSpine_bad _ xs k w1 (hs0.below hb) hk0 hk (by omega)
    have cRB := cL' g m2 hg
    have cM := fun w1 (hb : Below B.heap.size B w1) => leanMeld_bad _ _ xs ys k w1 (hs0.below hb) (hs0'.below hb) (by omega) (by omega) (Or.inl ⟨hk0, hk⟩)
    have cRX := cX c m3 hc
    have cP := fun w1 (hb : Below B.heap.size B w1) => leanPush_bad _ x0 x1 xs k w1 (hs0.below hb) (by omega) (Or.inl ⟨hk0, hk⟩)
    have cO := fun w1 (hb : Below B.heap.size B w1) => leanPop_bad _ xs k w1 (hs0.below hb) (by omega) (Or.inl ⟨hk0, hk⟩)
    have cEk := cE k
    rw [errV_pos hk0] at cEk
    subst hB
    exact leanSays_1 p p' n cap n' cap' k g m2 c m3 x0 x1 w (by omega) (by omega) (nat_eq hk0) (nat_bne hk0) cN0 cRA cK cSP cEk cRB cM cRX cP cO
#print axioms leanSays_any
end Go.Proofs.YtoaabpoicacogaaDoor
