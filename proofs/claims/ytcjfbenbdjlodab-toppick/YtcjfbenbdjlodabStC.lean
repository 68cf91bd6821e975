/-
  Package stream: remember, Put, Middle, Least; slices.Min.
-/
import Derived.Test.YtcjfbenbdjlodabStB
namespace Go.Proofs.Ytcjfbenbdjlodab
open Go.RowKit Go.Sort Go.Proofs

/-- The numbers that came last, with one more. -/
def lastsP (room : Nat) (ls : List Int) (c : Int) : List Int := (if ls.length = room then ls.drop 1 else ls) ++ [c]
/-- Behind the append, and the store. -/
theorem rem_mid {w w1 : World} {sb room qa qb : Nat} {ls : List Int} {lv v1 : Value} {a b : Array (Int × Int)} {fa fb : List Nat} {c : Int} (h : SAq w sb room ls lv qa qb a b fa fb) (a1 : OwnE EZ w1 0 v1 (ls ++ [c])) (a2 : (w.alloc (.cells #[.int .i64 c] 3)).grownBy w1 lv.ownBlock) (a3 : v1.ownBlock = lv.ownBlock ∨ v1.ownBlock = some (w.alloc (.cells #[.int .i64 c] 3)).heap.size) :
    SB w1 sb room lv qa qb ∧ SAq (w1.setCell ⟨sb, 1, none⟩ v1) sb room (ls ++ [c]) v1 qa qb a b fa fb ∧ Step (frm sb lv ++ (fa ++ fb)) (frm sb v1 ++ (fa ++ fb)) w (w1.setCell ⟨sb, 1, none⟩ v1) := by
  have hA : (w.alloc (.cells #[.int .i64 c] 3)).heap.size = w.heap.size + 1 := by simp
  have hn := h.nodup
  have nf := (List.nodup_append.1 hn).1
  have hdj := apart_l hn
  have hne : some sb ≠ lv.ownBlock := fun e => (List.nodup_cons.1 nf).1 (by rw [← e]; simp)
  have chA : Chg (fun _ => False) w (w.alloc (.cells #[.int .i64 c] 3)) := (Chg.refl _ w).alloc _
  have ch1 : Chg (· ∈ lv.ownBlock.toList) w w1 := (chA.mono fun _ q => q.elim).trans (Chg.of_grown (F := (· ∈ lv.ownBlock.toList)) a2 fun k e => by rw [e]; simp) fun j z => Or.inl z
  have m1 : SB w1 sb room lv qa qb := h.mem.kept (ch1.block sb h.mem.lt fun z => (List.nodup_cons.1 nf).1 z)
  have hv1 : ∀ j ∈ v1.ownBlock.toList, j ∈ lv.ownBlock.toList ∨ j = w.heap.size + 1 := by
    intro j hj
    rcases a3 with e | e
    · exact Or.inl (by rw [← e]; exact hj)
    · rw [e, hA] at hj
      exact Or.inr (by simpa using hj)
  have hs1 : ∀ j ∈ v1.ownBlock.toList, ¬ j = sb := by
    intro j hj e
    subst e
    rcases hv1 j hj with z | z
    · exact (List.nodup_cons.1 nf).1 z
    · have := h.mem.lt; omega
  have ch2 : Chg (· ∈ frm sb lv) w (w1.setCell ⟨sb, 1, none⟩ v1) := (ch1.mono fun j z => Or.inl (List.mem_cons_of_mem _ z)).setCell (p := ⟨sb, 1, none⟩) (Or.inl List.mem_cons_self) _
  have hno : (frm sb v1 ++ (fa ++ fb)).Nodup := by
    refine List.nodup_append.2 ⟨List.nodup_cons.2 ⟨fun z => hs1 sb z rfl, by cases v1.ownBlock <;> simp⟩, (List.nodup_append.1 hn).2.1, fun x hx y hy e => ?_⟩
    subst e
    rcases List.mem_cons.1 hx with rfl | z
    · exact hdj _ hy List.mem_cons_self
    · rcases hv1 x z with z | z
      · exact hdj x hy (List.mem_cons_of_mem _ z)
      · have := h.q_lt x hy; omega
  refine ⟨m1, ⟨m1.put1 v1, num_kept a1 ((Chg.refl (· = sb) w1).setCell (p := ⟨sb, 1, none⟩) (Or.inl rfl) _) hs1, h.low.kept ch2 fun j z => hdj j (List.mem_append_left _ z), h.high.kept ch2 fun j z => hdj j (List.mem_append_right _ z), hno⟩, hno, fun j z => ?_, ch2.mono fun j z => Or.inl (List.mem_append_left _ z)⟩
  rcases List.mem_append.1 z with z | z
  · rcases List.mem_cons.1 z with rfl | z
    · exact Or.inl (List.mem_append_left _ List.mem_cons_self)
    · rcases hv1 j z with z | z
      · exact Or.inl (List.mem_append_left _ (List.mem_cons_of_mem _ z))
      · exact Or.inr (by omega)
  · exact Or.inl (List.mem_append_right _ z)
/-- Behind slices.Delete, and the store. -/
theorem del_mid {w w1 : World} {sb room qa qb g n cap : Nat} {ls ms : List Int} {a b : Array (Int × Int)} {fa fb : List Nat} (h : SAq w sb room ls (.slice (some ⟨g, 0, none⟩) n cap) qa qb a b fa fb) {m : Nat} (a1 : OwnE EZ w1 0 (.slice (some ⟨g, 0, none⟩) m cap) ms) (a2 : w.grownBy w1 (some g)) :
    SB w1 sb room (.slice (some ⟨g, 0, none⟩) n cap) qa qb ∧ SAq (w1.setCell ⟨sb, 1, none⟩ (.slice (some ⟨g, 0, none⟩) m cap)) sb room ms (.slice (some ⟨g, 0, none⟩) m cap) qa qb a b fa fb ∧ Step (frm sb (.slice (some ⟨g, 0, none⟩) n cap) ++ (fa ++ fb)) (frm sb (.slice (some ⟨g, 0, none⟩) m cap) ++ (fa ++ fb)) w (w1.setCell ⟨sb, 1, none⟩ (.slice (some ⟨g, 0, none⟩) m cap)) := by
  have hn := h.nodup
  have nf := (List.nodup_append.1 hn).1
  have hdj := apart_l hn
  have hgs : ¬ g = sb := fun e => (List.nodup_cons.1 nf).1 (by simp [Value.ownBlock, e])
  have ch1 : Chg (· = g) w w1 := Chg.of_grown a2 fun k e => by simpa using e.symm
  have m1 := h.mem.kept (ch1.block sb h.mem.lt fun e => hgs e.symm)
  have ch2 : Chg (· ∈ frm sb (.slice (some ⟨g, 0, none⟩) n cap)) w (w1.setCell ⟨sb, 1, none⟩ (.slice (some ⟨g, 0, none⟩) m cap)) := (ch1.mono fun j z => Or.inl (by subst z; exact List.mem_cons_of_mem _ (by simp [Value.ownBlock]))).setCell (p := ⟨sb, 1, none⟩) (Or.inl List.mem_cons_self) _
  exact ⟨m1, ⟨m1.put1 _, num_kept a1 ((Chg.refl (· = sb) w1).setCell (p := ⟨sb, 1, none⟩) (Or.inl rfl) _) (fun j z e => hgs (by simp [Value.ownBlock] at z; omega)), h.low.kept ch2 fun j z => hdj j (List.mem_append_left _ z), h.high.kept ch2 fun j z => hdj j (List.mem_append_right _ z), hn⟩, hn, fun j z => Or.inl z, ch2.mono fun j z => Or.inl (List.mem_append_left _ z)⟩

theorem form3 {w : World} {v : Value} {vs : List Int} (h : OwnE EZ w 0 v vs) : ∃ p n c, v = .slice p n c := by
  obtain ⟨p, c, e⟩ := h.form
  exact ⟨p, _, c, e⟩
theorem SAq.dn {w : World} {sb room qa qb : Nat} {ls : List Int} {lv : Value} {a b : Array (Int × Int)} {fa fb : List Nat} (h : SAq w sb room ls lv qa qb a b fa fb) (n : Nat) : SAq (w.drewN n) sb room ls lv qa qb a b fa fb := h.kept (F := fun _ => False) ((Chg.refl _ _).dn n) (fun _ _ q => q)
theorem Step.dn {f g : List Nat} {w w' : World} (s : Step f g w w') (n : Nat) : Step f g w (w'.drewN n) := ⟨s.nodup, s.sub, s.chg.dn n⟩
set_option maxHeartbeats 8000000 in
set_option maxRecDepth 100000 in
theorem remember_any {w : World} {sb room qa qb : Nat} {ls : List Int} {lv : Value} {a b : Array (Int × Int)} {fa fb : List Nat} {c : Int} (h : SAq w sb room ls lv qa qb a b fa fb) (hs : ls.length ≤ 1000) (h0 : 1 ≤ room) :
    Calls Try.prog 20 #[.pointer (some ⟨sb, 0, none⟩), .int .i64 c] w fun e w' => e = .returned (.tuple #[]) ∧ ∃ lv', SAq w' sb room (lastsP room ls c) lv' qa qb a b fa fb ∧ Step (frm sb lv ++ (fa ++ fb)) (frm sb lv' ++ (fa ++ fb)) w w' := by
  obtain ⟨p, cp, rfl⟩ := h.own.form
  obtain ⟨n, hn⟩ : ∃ n, ls.length = n := ⟨_, rfl⟩
  rw [hn] at h ⊢
  obtain ⟨c0, c1, _, _⟩ := h.mem.cells
  have H := hidp h
  have HN := hidp hn
  by_cases hr : n = room
  · subst hr
    have HL : Hid (lastsP n ls c = ls.drop 1 ++ [c]) := by show _ = _; unfold lastsP; rw [if_pos hn]
    obtain ⟨g, cap, e, hcp⟩ := num_some h.own hn h0
    simp only [Value.slice.injEq, true_and] at e
    obtain ⟨rfl, rfl⟩ := e
    have CD : Hid (∀ wx, OwnE EZ wx 0 (.slice (some ⟨g, 0, none⟩) n cp) ls → Calls Try.prog 32 #[.slice (some ⟨g, 0, none⟩) n cp, .int .i64 0, .int .i64 1] wx fun e w' => e = .returned (.slice (some ⟨g, 0, none⟩) (n - 1) cp) ∧ OwnE EZ w' 0 (.slice (some ⟨g, 0, none⟩) (n - 1) cp) (ls.drop 1) ∧ wx.grownBy w' (some g)) := by
      intro wx q
      have := deleteZ (i := 0) (j := 1) q (by omega) h0
      rw [show 0 + (n - 1) = n - 1 by omega, List.take_zero, List.nil_append] at this
      exact this
    clear h hn
    go_enter Try.func20, Try.ntmps20
    go_wp2_with fail
    go_quiet (fail)
    have H1 := hidp (H.out.dn nq)
    have T1 := hidp ((Step.refl w H.out.nodup).dn nq)
    clear c0 c1 H
    generalize w.drewN nq = w0 at H1 T1 ⊢
    obtain ⟨_, c1, _, _⟩ := H1.out.mem.cells
    go_wp2_with (first | (go_at_call 32; refine (CD.out _ H1.out.own).mono ?_; rintro e w1 ⟨rfl, o1, g1⟩; obtain ⟨m1, k2, t2⟩ := del_mid H1.out o1 g1; obtain ⟨_, d1, _, _⟩ := m1.cells; have f1 := m1.fr 1; have H2 := hidp k2; have T2 := hidp (T1.out.trans t2); clear o1 g1 m1 k2 t2) | (at_builtin; refine Hid.out ?_))
    have hsz : (w1.setCell ⟨sb, 1, none⟩ (.slice (some ⟨g, 0, none⟩) (n - 1) cp)).heap.size = w1.heap.size := size_cell _ _ _
    clear d1 f1 c1 H1 T1 CD
    generalize w1.setCell ⟨sb, 1, none⟩ (.slice (some ⟨g, 0, none⟩) (n - 1) cp) = w2 at H2 T2 hsz ⊢
    rw [← hsz]
    clear hsz
    obtain ⟨_, c1, _, _⟩ := H2.out.mem.cells
    have HOA := hidp (H2.out.own.alloc (.cells #[.int .i64 c] 3))
    have HNEW := hidp (new_num w2 c)
    have HLN : Hid ((ls.drop 1).length ≤ 100000) := by show _ ≤ _; rw [List.length_drop]; omega
    refine hidp ?_
    go_wp2_with (at_builtin; refine wpList_appendE EZ rfl (.tmp 26) (.tmp 28) rfl 0 _ (ls.drop 1) c ⟨w2.heap.size, 0, none⟩ 1 rfl HOA.out rfl HNEW.out HLN.out (Nat.zero_le _) ?_; intro v1 w3 a1 a2 a3; obtain ⟨p1, n1, cp1, rfl⟩ := form3 a1; obtain ⟨q1, k3, t3⟩ := rem_mid H2.out a1 a2 a3; obtain ⟨_, m1, _, _⟩ := q1.cells; have f1 := q1.fr 1; have H3 := hidp k3; have T3 := hidp (T2.out.trans t3); clear a1 a2 a3 q1 k3 t3)
    go_end0
    exact ⟨rfl, _, by rw [HL.out]; exact H3.out, T3.out⟩
  · have HL : Hid (lastsP room ls c = ls ++ [c]) := by show _ = _; unfold lastsP; rw [if_neg (by omega)]
    have hz : ((n : Int) == (room : Int)) = false := beq_eq_false_iff_ne.2 (by omega)
    clear h
    go_enter Try.func20, Try.ntmps20
    go_wp2_with fail
    go_quiet (fail)
    have H2 := hidp (H.out.dn nq)
    have T2 := hidp ((Step.refl w H.out.nodup).dn nq)
    clear c0 c1 H
    generalize w.drewN nq = w2 at H2 T2 ⊢
    obtain ⟨_, c1, _, _⟩ := H2.out.mem.cells
    have HOA := hidp (H2.out.own.alloc (.cells #[.int .i64 c] 3))
    have HNEW := hidp (new_num w2 c)
    have HLN : Hid (ls.length ≤ 100000) := by show _ ≤ _; omega
    go_wp2_with (at_builtin; refine wpList_appendE EZ rfl (.tmp 26) (.tmp 28) rfl 0 _ ls c ⟨w2.heap.size, 0, none⟩ 1 rfl HOA.out rfl HNEW.out HLN.out (Nat.zero_le _) ?_; intro v1 w3 a1 a2 a3; obtain ⟨p1, n1, cp1, rfl⟩ := form3 a1; obtain ⟨q1, k3, t3⟩ := rem_mid H2.out a1 a2 a3; obtain ⟨_, m1, _, _⟩ := q1.cells; have f1 := q1.fr 1; have H3 := hidp k3; have T3 := hidp (T2.out.trans t3); clear a1 a2 a3 q1 k3 t3)
    go_end0
    exact ⟨rfl, _, by rw [HL.out]; exact H3.out, T3.out⟩

set_option maxHeartbeats 1000000 in
theorem put_bad {w : World} {sb : Nat} {c : Int} (h : c < -1000000 ∨ 1000000 < c) :
    Calls Try.prog 7 #[.pointer (some ⟨sb, 0, none⟩), .int .i64 c] w fun e w' => e = .returned (.iface 44 (.int .i64 1)) ∧ w' = w := by
  rcases h with h1 | h1
  · go_enter Try.func7, Try.ntmps7
    go_wp2
    go_ret
    exact ⟨rfl, rfl⟩
  · have h2 : ¬ (c < -1000000) := by omega
    go_enter Try.func7, Try.ntmps7
    go_wp2
    go_ret
    exact ⟨rfl, rfl⟩
set_option maxHeartbeats 2000000 in
theorem put_good {w : World} {sb room : Nat} {ls : List Int} {a b : Array (Int × Int)} {f : List Nat} {c : Int} (h : SAt w sb room ls a b f) (hc : ¬ (c < -1000000 ∨ 1000000 < c)) (h0 : 1 ≤ room) (hs : ls.length ≤ 1000) (h1 : a.size ≤ 400) (h2 : b.size ≤ 400) :
    Calls Try.prog 7 #[.pointer (some ⟨sb, 0, none⟩), .int .i64 c] w fun e w' => e = .returned .nilIface ∧ ∃ f', SAt w' sb room (lastsP room ls c) (halve a b c).1 (halve a b c).2 f' ∧ Step f f' w w' := by
  obtain ⟨lv, qa, qb, fa, fb, h, rfl⟩ := h
  have z1 : ¬ (c < -1000000) := by omega
  have z2 : ¬ (1000000 < c) := by omega
  have C1 := hidp (halve_any (c := c) h h1 h2)
  obtain ⟨x, hx⟩ : ∃ x, halve a b c = x := ⟨_, rfl⟩
  rw [hx] at C1 ⊢
  obtain ⟨x1, x2⟩ := x
  simp only at C1 ⊢
  clear h hc h1 h2 hx
  go_enter Try.func7, Try.ntmps7
  go_wp2_with fail
  refine C1.out.mono ?_
  rintro e w1 ⟨rfl, fa1, fb1, k1, t1⟩
  have C2 := hidp (remember_any (c := c) k1 hs h0)
  have T1 := hidp t1
  clear k1 t1 C1
  go_wp2_with fail
  refine C2.out.mono ?_
  rintro e w2 ⟨rfl, lv2, k2, t2⟩
  have K2 := hidp k2
  have T2 := hidp (T1.out.trans t2)
  clear k2 t2 C2 T1
  go_wp2
  go_ret
  exact ⟨rfl, _, ⟨lv2, qa, qb, fa1, fb1, K2.out, rfl⟩, T2.out⟩
set_option maxHeartbeats 1000000 in
theorem middle_none {w : World} {sb room : Nat} {ls : List Int} {b : Array (Int × Int)} {f : List Nat} (h : SAt w sb room ls #[] b f) :
    Calls Try.prog 14 #[.pointer (some ⟨sb, 0, none⟩)] w fun e w' => e = .returned (.tuple #[.int .i64 0, .iface 44 (.int .i64 5)]) ∧ w' = w := by
  obtain ⟨lv, qa, qb, fa, fb, h, rfl⟩ := h
  obtain ⟨_, _, c2, _⟩ := h.mem.cells
  have C1 := hidp (qFirst_none h.low)
  clear h
  go_enter Try.func14, Try.ntmps14
  go_wp2_with (go_at_call 27; refine C1.out.mono ?_; rintro e w' ⟨rfl, rfl⟩)
  go_ret2
  exact ⟨rfl, rfl⟩
theorem num_head {d : Array (Int × Int)} (h0 : 0 < d.size) : numG d = valG d[0]! :: (numG d).tail := by
  have e : (numG d)[0]? = some (valG d[0]!) := map_at valG d (i := 0) h0
  cases hq : numG d with
  | nil => rw [hq] at e; simp at e
  | cons a t => rw [hq] at e; simp at e; rw [e]; rfl
set_option maxHeartbeats 1000000 in
theorem middle_some {w : World} {sb room : Nat} {ls : List Int} {a b : Array (Int × Int)} {f : List Nat} (h : SAt w sb room ls a b f) (h0 : 0 < a.size) :
    Calls Try.prog 14 #[.pointer (some ⟨sb, 0, none⟩)] w fun e w' => e = .returned (.tuple #[.int .i64 (valG a[0]!), .nilIface]) ∧ w' = w := by
  obtain ⟨lv, qa, qb, fa, fb, h, rfl⟩ := h
  obtain ⟨_, _, c2, _⟩ := h.mem.cells
  have C1 := hidp (qFirst_some (x := valG a[0]!) (vs := (numG a).tail) (by rw [← num_head h0]; exact h.low))
  generalize valG a[0]! = x at C1 ⊢
  clear h
  go_enter Try.func14, Try.ntmps14
  go_wp2_with (go_at_call 27; refine C1.out.mono ?_; rintro e w' ⟨rfl, rfl⟩)
  go_ret2
  exact ⟨rfl, rfl⟩
#print axioms remember_any
#print axioms put_good
end Go.Proofs.Ytcjfbenbdjlodab
