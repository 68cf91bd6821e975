/-
  The document's SoftPop: where it begins.
-/
import Derived.Test.YtdpfijhkbhmkgaaDoorRefS9
namespace Go.Proofs.YtdpfijhkbhmkgaaDoor
open Go.RowKit Go.Sort Go.Proofs

theorem pop_begin {w W : World} {base n r0 N A0 : Nat} {F : Nat → Prop} {cp tp : Option Addr} {cn cc tn tc : Nat} {ts : List SN} {k : Int} {r m : Nat} {x0 x1 rk pu : Int} {is : List (Int × Int)} {a b : SN} (hD : DocS w base F (cp, cn, cc) (tp, tn, tc) n ts) (hG : GoodS r0 n ts) (e : ts[A0]? = some (.node k r m ((x0, x1) :: is) a b)) (hN : w.heap.size = N)
    (hW : W = ((w.alloc (.cells #[.int .i64 rk, .int .i64 pu, .slice cp cn cc, .slice tp tn tc] 40)).alloc (.cells #[.int .i64 0, .int .i64 0, .slice none 0 0, .slice none 0 0] 40)).alloc (.cells #[.int .i64 0, .int .i64 0] 30)) :
    ∃ (g tb i : Nat) (l mm : Int) (blk off sc : Nat) (is0 : List Nat), cp = some ⟨g, 0, none⟩ ∧ tp = some ⟨tb, 0, none⟩ ∧ tn = ts.length ∧ tn ≤ tc ∧ Below w.heap.size w W ∧ W.heap.size = N + 3 ∧
      (∀ j t, ts[j]? = some t → ∃ q : Nat, q < cn ∧ tb < W.heap.size ∧ g < W.heap.size ∧ W.cell? ⟨tb, j, none⟩ = some (.int .i64 (q : Int)) ∧ W.cell? ⟨g, q * 6, none⟩ = some (.int .i64 t.key)) ∧
      tb < N ∧ g < N ∧ blk < N ∧ W.cell? ⟨tb, A0, none⟩ = some (.int .i64 (i : Int)) ∧ i < cn ∧ W.cell? ⟨g, i * 6, none⟩ = some (.int .i64 k) ∧ W.cell? ⟨g, i * 6 + 5, none⟩ = some (.slice (some ⟨blk, off, none⟩) (is.length + 1) sc) ∧ is.length + 1 ≤ sc ∧ W.cell? ⟨blk, off, none⟩ = some (.int .i64 x0) ∧ W.cell? ⟨blk, off + 1, none⟩ = some (.int .i64 x1) ∧ W.frozen? ⟨g, i * 6 + 5, none⟩ = false ∧
      a.none? = decide (l < 0) ∧ b.none? = decide (mm < 0) ∧ BlkAt W N #[.int .i64 rk, .int .i64 pu, .slice (some ⟨g, 0, none⟩) cn cc, .slice (some ⟨tb, 0, none⟩) tn tc] ∧ is0.length = tn ∧ (tb < w.heap.size ∧ ∀ W', Below w.heap.size w W' → ∀ a', (∀ j u, (ET.flat (is0.drop a'))[j]? = some u → W'.cell? ((⟨tb, a', none⟩ : Addr).add j) = some u) ∧ (∀ j u, (ET.flat (is0.take a'))[j]? = some u → W'.cell? ((⟨tb, 0, none⟩ : Addr).add j) = some u)) ∧
      ∀ W10 M p' sl' sc', Below W.heap.size W W10 → BlkAt W10 M #[.int .i64 x0, .int .i64 x1] → N + 3 ≤ M → (p' = some ⟨blk, off + 2, none⟩ ∨ is = []) → sl' = is.length → is.length ≤ sc' →
        PopE w base F N n ts g cn cc tb tn tc i A0 k r m l mm is a b p' sl' sc' is0 rk pu x0 x1 M (W10.setCell ⟨g, i * 6 + 5, none⟩ (.slice p' sl' sc')) := by
  obtain ⟨Q, is0, f, h1, h2, h3, h4⟩ := hD
  simp only at h1 h3
  have hbW : Below w.heap.size w W := by
    rw [hW]
    exact (((Below.refl _ w).alloc (Nat.le_refl _) _).alloc (by simp) _).alloc (by simp; omega) _
  have hsz : W.heap.size = N + 3 := by rw [hW, ← hN]; simp
  obtain ⟨i, ft, fo, k1, k2, k3, k4, k5⟩ := h2.change e
  obtain ⟨l, mm, q1, q2, q3, q4, q5⟩ := rep_items k2 k3 is
  obtain ⟨⟨p, sl, sc⟩, hQi⟩ := plainQ_get q1
  have hlQ : 0 < Q.length := by have := (List.getElem?_eq_some_iff.1 hQi).1; omega
  obtain ⟨pc, cc', ec⟩ := h1.own.form
  simp only [Value.slice.injEq] at ec
  obtain ⟨g, cp2, eg, _⟩ := h1.own.some ec.2.1.symm (by omega)
  simp only [Value.slice.injEq] at eg
  obtain rfl : cp = some ⟨g, 0, none⟩ := eg.1
  have hgl : g < N := by rw [← hN]; exact h1.lt
  have hil := h2.trees.length
  obtain ⟨tb, b1, b2, b3⟩ := h3.at k1
  simp only at b1
  subst b1
  have htn : tn = is0.length := h3.1
  have hQ : CellsAt EC W base (.slice (some ⟨g, 0, none⟩) cn cc) (FB F N) Q := foreign_all h1 hN hbW (by omega)
  obtain ⟨w0, _, _, _, _, w5⟩ := hQ.words hQi
  obtain ⟨_, _, _, fr5⟩ := hQ.free hQi
  have hsl := (hQ.its hQi).1
  have hscl := (hQ.its hQi).2.1
  simp only at hsl hscl
  obtain ⟨blk, off, eb, hnb, hrb⟩ : ∃ blk off, p = some ⟨blk, off, none⟩ ∧ ¬ (blk = g ∨ FB F N blk) ∧ RdAt W blk off ((x0, x1) :: is).toArray := by
    obtain ⟨_, _, h0 | ⟨blk, off, eb, hnb, hr⟩⟩ := hQ.its hQi
    · cases h0
    · exact ⟨blk, off, eb, hnb, hr⟩
  subst eb
  have hbl : blk < N := by
    obtain ⟨_, _, h0 | ⟨blk', off', eb, _, hr⟩⟩ := h1.its hQi
    · cases h0
    · simp only [Option.some.injEq, Addr.mk.injEq] at eb
      rw [← hN, eb.1]; exact hr.1
  have hitm := hrb.2 0 (by simp)
  simp only [Nat.zero_mul, Nat.add_zero] at hitm
  have hb0 : BlkAt W N #[.int .i64 rk, .int .i64 pu, .slice (some ⟨g, 0, none⟩) cn cc, .slice (some ⟨tb, 0, none⟩) tn tc] := by
    rw [hW, ← hN]
    exact ((BlkAt.new w _ _).below ((Below.refl _ _).alloc (Nat.le_refl _) _)).below ((Below.refl _ _).alloc (Nat.le_refl _) _)
  have hb1 : BlkAt W (N + 1) #[.int .i64 0, .int .i64 0, .slice none 0 0, .slice none 0 0] := by
    rw [hW, ← hN]
    have := BlkAt.new (w.alloc (.cells #[.int .i64 rk, .int .i64 pu, .slice (some ⟨g, 0, none⟩) cn cc, .slice (some ⟨tb, 0, none⟩) tn tc] 40)) #[.int .i64 0, .int .i64 0, .slice none 0 0, .slice none 0 0] 40
    rw [show (w.alloc (.cells #[.int .i64 rk, .int .i64 pu, .slice (some ⟨g, 0, none⟩) cn cc, .slice (some ⟨tb, 0, none⟩) tn tc] 40)).heap.size = w.heap.size + 1 by simp] at this
    exact this.below ((Below.refl _ _).alloc (Nat.le_refl _) _)
  have hb2 : BlkAt W (N + 2) #[.int .i64 0, .int .i64 0] := by
    rw [hW, ← hN]
    have := BlkAt.new ((w.alloc (.cells #[.int .i64 rk, .int .i64 pu, .slice (some ⟨g, 0, none⟩) cn cc, .slice (some ⟨tb, 0, none⟩) tn tc] 40)).alloc (.cells #[.int .i64 0, .int .i64 0, .slice none 0 0, .slice none 0 0] 40)) #[.int .i64 0, .int .i64 0] 30
    rw [show ((w.alloc (.cells #[.int .i64 rk, .int .i64 pu, .slice (some ⟨g, 0, none⟩) cn cc, .slice (some ⟨tb, 0, none⟩) tn tc] 40)).alloc (.cells #[.int .i64 0, .int .i64 0, .slice none 0 0, .slice none 0 0] 40)).heap.size = w.heap.size + 2 by simp] at this
    exact this
  have h3W : NumX W (fun j => j = g ∨ FB F N j) (some ⟨tb, 0, none⟩, tn, tc) is0 := h3.kept (Chg.of_below (F := fun _ => False) hbW) (fun _ z => z.elim) (fun j z => by
    rcases z with z | z | z
    · left; left; rw [z]; rfl
    · exact Or.inl (Or.inr z)
    · exact Or.inr (by rw [hN]; exact z.1))
  have htbl : tb < N := by rw [← hN]; exact b2
  obtain ⟨tb2, e2, _, hrd⟩ : ∃ t2, (some (⟨tb, 0, none⟩ : Addr)) = some ⟨t2, 0, none⟩ ∧ True ∧ RdE ET w t2 0 is0 := by
    obtain ⟨_, _, ⟨h0, _⟩ | ⟨t2, h0, _, hr⟩⟩ := h3
    · cases h0
    · exact ⟨t2, h0, trivial, hr⟩
  simp only [Option.some.injEq, Addr.mk.injEq, and_true] at e2
  subst e2
  clear hW
  refine ⟨g, tb, i, l, mm, blk, off, sc, is0, rfl, rfl, by rw [htn, hil], by rw [htn]; exact h3.2.1, hbW, hsz, fun j t et => ?_, htbl, hgl, hbl, ?_, ?_, w0, ?_, by have hcl := hscl; simp only [List.length_cons] at hcl; exact hcl, hitm.1, hitm.2, fr5, q2, q3, hb0, htn.symm, ⟨b2, fun W' hb' a' => ⟨fun j u hu => ?_, fun j u hu => ?_⟩⟩, fun W10 M p' sl' sc' hb10 hM hM2 hp hs hsc => ?_⟩
  · obtain ⟨q, c, z1, z2, z3⟩ := h2.trees.key et (hG.good t (List.mem_of_getElem? et)).2
    obtain ⟨⟨p2, sl2, sc2⟩, hQq⟩ := plainQ_get z2
    obtain ⟨y0, _⟩ := hQ.words hQq
    obtain ⟨t3, y1, y2, y3⟩ := h3W.at z1
    simp only [Option.some.injEq, Addr.mk.injEq, and_true] at y1
    subst y1
    exact ⟨q, by rw [← h1.len]; exact (List.getElem?_eq_some_iff.1 hQq).1, y2, by omega, y3, by rw [← z3]; exact y0⟩
  · obtain ⟨t3, y1, y2, y3⟩ := h3W.at k1
    simp only [Option.some.injEq, Addr.mk.injEq, and_true] at y1
    subst y1
    exact y3
  · rw [← h1.len]; exact (List.getElem?_eq_some_iff.1 hQi).1
  · rw [w5, hsl]; rfl
  · have hr2 : RdE ET W' tb (0 + a' * ET.K) (is0.drop a') := (hrd.below hb' hrd.1).part a' (zs := []) (by simp)
    have := hr2.2 j u hu
    rw [show ((⟨tb, a', none⟩ : Addr).add j) = ⟨tb, a' + j, none⟩ by unfold Addr.add; split <;> simp_all]
    simpa [ET] using this
  · have hr2 : RdE ET W' tb (0 + 0 * ET.K) (is0.take a') := (hrd.below hb' hrd.1).part 0 (zs := is0.drop a') (by simp)
    have := hr2.2 j u hu
    rw [show ((⟨tb, 0, none⟩ : Addr).add j) = ⟨tb, 0 + j, none⟩ by unfold Addr.add; split <;> simp_all]
    simpa [ET] using this
  · have hQ10 := hQ.below hb10
    have hbx : ∀ {b' vs}, BlkAt W b' vs → BlkAt W10 b' vs := fun h => h.below hb10
    have hX : SlX W10 (fun j => j = g ∨ FB F N j) (p', sl', sc') is := by
      refine ⟨hs, hsc, ?_⟩
      rcases hp with rfl | hp
      · exact Or.inr ⟨blk, off + 2, rfl, hnb, (hrb.tail).below hb10 hrb.1⟩
      · exact Or.inl hp
    have hput := hQ10.putI hQi hX
    have hil2 := (List.getElem?_eq_some_iff.1 hQi).1
    have eP : plainQ (Q.set i (⟨k, r, m, l, mm, is⟩, p', sl', sc')) = (plainQ Q).set i ⟨k, r, m, l, mm, is⟩ := plainQ_set _ _ _
    have hN0 : ∀ j, N ≤ j → j ≠ g := fun j z q => by omega
    have hstep : Chg (fun j => j = g) W10 (W10.setCell ⟨g, i * 6 + 5, none⟩ (.slice p' sl' sc')) := (Chg.refl (fun j => j = g) W10).setCell (p := ⟨g, i * 6 + 5, none⟩) (Or.inl rfl) _
    refine ⟨⟨_, ft, hput, List.getElem?_set_self hil2, by rw [eP]; exact q4, k3, by rw [List.length_set]; exact h4, fun B g' s hm hr => ?_, fun B g' hm hd => ?_⟩, ?_, ?_, (hbx hb0).far _ (hN0 N (Nat.le_refl _)), (hbx hb1).far _ (hN0 _ (by omega)), (hbx hb2).far _ (hN0 _ (by omega)), hM.far _ (hN0 _ (by omega)), ⟨hM2, hN0 _ (by omega)⟩⟩
    · rw [eP] at hm
      exact ⟨_, k4 B g' s (q5.trans hm) hr⟩
    · rw [eP] at hm
      exact ⟨_, k5 B g' (q5.trans hm) hd⟩
    · exact (h3W.below hb10).kept hstep (fun j z => Or.inl z) (fun j z => Or.inl z)
    · exact ((Chg.of_below (F := fun j => j = g) hbW).trans (Chg.of_below (F := fun _ => False) hb10) (fun _ z => z.elim)).trans hstep (fun j z => Or.inl z)
section
variable {ts : List SN} {A r m r0 : Nat} {k : Int} {x : Int × Int} {is : List (Int × Int)} {a b : SN}
theorem pop_fill (hp : popS ts = putS ts A (takeS (.node k r m (x :: is) a b))) (hO : OpenN r0 k r m is a b) (h : 2 * is.length ≤ m ∧ (a.none? = false ∨ b.none? = false)) : popS ts = ts.set A (fillS (.node k r m is a b)) := by
  obtain ⟨_, _, _, i4, _⟩ := fillS_good r0 _ k r m is a b (Nat.le_refl _) hO (Or.inr h.2)
  have e : takeS (.node k r m (x :: is) a b) = fillS (.node k r m is a b) := by
    simp only [takeS, List.drop_succ_cons, List.drop_zero]
    rw [if_pos h]
  rw [hp, e]
  unfold putS
  rw [i4, if_neg (by decide)]
theorem pop_stay (hp : popS ts = putS ts A (takeS (.node k r m (x :: is) a b))) (h : ¬ (2 * is.length ≤ m ∧ (a.none? = false ∨ b.none? = false))) (hne : is ≠ []) : popS ts = ts.set A (.node k r m is a b) := by
  have e : takeS (.node k r m (x :: is) a b) = .node k r m is a b := by
    simp only [takeS, List.drop_succ_cons, List.drop_zero]
    rw [if_neg h, if_neg hne]
  rw [hp, e]
  rfl
theorem pop_gone (hp : popS ts = putS ts A (takeS (.node k r m (x :: is) a b))) (h : ¬ (2 * is.length ≤ m ∧ (a.none? = false ∨ b.none? = false))) (he : is = []) : popS ts = ts.eraseIdx A ∧ a = .nil ∧ b = .nil := by
  have e : takeS (.node k r m (x :: is) a b) = .nil := by
    simp only [takeS, List.drop_succ_cons, List.drop_zero]
    rw [if_neg h, if_pos he]
  subst he
  have hn : a.none? = true ∧ b.none? = true := by
    cases ha : a.none? <;> cases hb : b.none?
    · exact absurd ⟨Nat.zero_le _, Or.inl ha⟩ h
    · exact absurd ⟨Nat.zero_le _, Or.inl ha⟩ h
    · exact absurd ⟨Nat.zero_le _, Or.inr hb⟩ h
    · exact ⟨rfl, rfl⟩
  rw [SN.none_iff, SN.none_iff] at hn
  exact ⟨by rw [hp, e]; rfl, hn.1, hn.2⟩
end
/-- A stretch of the list that is read, from its beginning. -/
theorem src_take {w : World} {tb k : Nat} {F : Nat → Prop} {l : List Nat} (h : (some (⟨tb, 0, none⟩ : Addr) = none ∧ l = []) ∨ ∃ blk, some (⟨tb, 0, none⟩ : Addr) = some ⟨blk, 0, none⟩ ∧ ¬ F blk ∧ RdE ET w blk 0 l) : ∀ W, Below w.heap.size w W → ∀ j u, (ET.flat (l.take k))[j]? = some u → W.cell? ((⟨tb, 0, none⟩ : Addr).add j) = some u := by
  rcases h with ⟨e, _⟩ | ⟨blk, e, _, hr⟩
  · cases e
  · simp only [Option.some.injEq, Addr.mk.injEq] at e
    obtain ⟨rfl, _⟩ := e
    intro W hb j u hu
    have h2 : RdE ET W tb (0 + 0 * ET.K) (l.take k) := (hr.below hb hr.1).part 0 (zs := l.drop k) (by simp)
    have := h2.2 j u hu
    rw [show ((⟨tb, 0, none⟩ : Addr).add j) = ⟨tb, 0 + j, none⟩ by unfold Addr.add; split <;> simp_all]
    simpa [ET] using this
/-- What is written into the results. -/
theorem chg_out (B : World) (N : Nat) (v0 v1 v2 v3 v4 v5 : Value) : Chg (fun j => N ≤ j ∧ j < N + 3) B ((((((B.setCell ⟨N + 1, 0, none⟩ v0).setCell ⟨N + 1, 1, none⟩ v1).setCell ⟨N + 1, 2, none⟩ v2).setCell ⟨N + 1, 3, none⟩ v3).setCell ⟨N + 1 + 1, 0, none⟩ v4).setCell ⟨N + 1 + 1, 1, none⟩ v5) := by
  have h1 : (fun j => N ≤ j ∧ j < N + 3) (N + 1) := ⟨by omega, by omega⟩
  have h2 : (fun j => N ≤ j ∧ j < N + 3) (N + 1 + 1) := ⟨by omega, by omega⟩
  exact (((((((Chg.refl _ B).setCell (p := ⟨N + 1, 0, none⟩) (Or.inl h1) _).setCell (p := ⟨N + 1, 1, none⟩) (Or.inl h1) _).setCell (p := ⟨N + 1, 2, none⟩) (Or.inl h1) _).setCell (p := ⟨N + 1, 3, none⟩) (Or.inl h1) _).setCell (p := ⟨N + 1 + 1, 0, none⟩) (Or.inl h2) _).setCell (p := ⟨N + 1 + 1, 1, none⟩) (Or.inl h2) _)
theorem chg_outD (B : World) (N : Nat) (v0 v1 v2 v3 v4 v5 : Value) : Chg (fun j => N ≤ j ∧ j < N + 3) B ((((((B.setCell ⟨N + 1, 0, none⟩ v0).setCell ⟨N + 1, 1, none⟩ v1).setCell ⟨N + 1, 2, none⟩ v2).setCell ⟨N + 1, 3, none⟩ v3).setCell ⟨N + 1 + 1, 0, none⟩ v4).setCell ⟨N + 1 + 1, 1, none⟩ v5).drew := (chg_out B N v0 v1 v2 v3 v4 v5).dn 1
theorem chg_outT (B : World) (N : Nat) (u v0 v1 v2 v3 v4 v5 : Value) : Chg (fun j => N ≤ j ∧ j < N + 3) B (((((((B.setCell ⟨N, 3, none⟩ u).setCell ⟨N + 1, 0, none⟩ v0).setCell ⟨N + 1, 1, none⟩ v1).setCell ⟨N + 1, 2, none⟩ v2).setCell ⟨N + 1, 3, none⟩ v3).setCell ⟨N + 1 + 1, 0, none⟩ v4).setCell ⟨N + 1 + 1, 1, none⟩ v5).drew :=
  ((Chg.refl (fun j => N ≤ j ∧ j < N + 3) B).setCell (p := ⟨N, 3, none⟩) (Or.inl ⟨Nat.le_refl _, by show N < N + 3; omega⟩) u).trans (chg_outD _ N v0 v1 v2 v3 v4 v5) (fun j z => Or.inl z)
end Go.Proofs.YtdpfijhkbhmkgaaDoor
