/-
  bino.added: of the trees of one rank which one stays, and what is carried.
-/
import Derived.Test.YtmkjalpgeljnkaaDoorDLink
import Derived.Test.YtmkjalpgeljnkaaDoorDDig
import Derived.Test.YtmkjalpgeljnkaaDoorRefB6
import Derived.Deep.RegionHeld3
namespace Go.Proofs.YtmkjalpgeljnkaaDoor
open Go.RowKit Go.Sort Go.Proofs

/-- A slice, and what it holds. -/
abbrev Tk := SlV × List (Int × Int)
/-- Those that hold something. -/
def keepT (ts : List Tk) : List Tk := ts.filter fun t => decide (0 < t.1.2.1)
theorem keepT_yes {T : List Tk} {k : Nat} {t : Tk} (h : T[k]? = some t) (hp : 0 < t.1.2.1) : keepT (T.take (k + 1)) = keepT (T.take k) ++ [t] := by
  obtain ⟨hk, e⟩ := List.getElem?_eq_some_iff.1 h
  unfold keepT
  rw [List.take_succ_eq_append_getElem hk, List.filter_append, e]
  simp [hp]
theorem keepT_no {T : List Tk} {k : Nat} {t : Tk} (h : T[k]? = some t) (hp : ¬ 0 < t.1.2.1) : keepT (T.take (k + 1)) = keepT (T.take k) := by
  obtain ⟨hk, e⟩ := List.getElem?_eq_some_iff.1 h
  unfold keepT
  rw [List.take_succ_eq_append_getElem hk, List.filter_append, e]
  simp [hp]
theorem keepT_pick {s0 s1 s2 : SlV} {c x y : List (Int × Int)} (h0 : s0.2.1 = c.length) (h1 : s1.2.1 = x.length) (h2 : s2.2.1 = y.length) : (keepT [(s0, c), (s1, x), (s2, y)]).map (·.2) = pickL c x y := by
  unfold keepT pickL optL
  have e : ∀ {l : List (Int × Int)}, (0 < l.length) ↔ l ≠ [] := fun {l} => List.length_pos_iff
  by_cases a : c = [] <;> by_cases b : x = [] <;> by_cases d : y = [] <;> simp [h0, h1, h2, e, a, b, d]
theorem OwnE.lit {P : Program} {α : Type} (E : El P α) (w : World) : OwnE E (w.alloc (.cells #[] E.T)) w.heap.size (.slice (Option.some ⟨w.heap.size, 0, none⟩) 0 0) [] := by
  have := World.ownsRow_lit (base := w.heap.size) (e := E.T) (size := E.K) w #[] 0 (Nat.le_refl _) (Nat.zero_le _) (by simp)
  exact this
theorem Sl.pos {w : World} {p : Option Addr} {n c : Nat} {l : List (Int × Int)} (h : Sl w (.slice p n c) l.toArray) : n = l.length ∧ l.length ≤ c := by
  obtain ⟨p', c', e, hc, _⟩ := h
  simp only [Value.slice.injEq, List.size_toArray] at e hc
  obtain ⟨rfl, rfl, rfl⟩ := e
  exact ⟨rfl, hc⟩

set_option maxHeartbeats 16000000 in
set_option maxRecDepth 4000 in
theorem added_some (F B : Option Nat) (g : Nat) (s0 s1 s2 : SlV) (L0 L1 L2 : List (Int × Int)) (w : World) (HT : Hid (RdE ES w g 0 [s0, s1, s2])) (HS0 : Hid (SlB F w B (.slice s0.1 s0.2.1 s0.2.2) L0)) (HS1 : Hid (SlB F w B (.slice s1.1 s1.2.1 s1.2.2) L1)) (HS2 : Hid (SlB F w B (.slice s2.1 s2.2.1 s2.2.2) L2)) (HL : Hid (L0.length ≤ 1000 ∧ L1.length ≤ 1000 ∧ L2.length ≤ 1000)) (HF : Hid (∀ g, F = some g → g < w.heap.size)) (HBB : Hid (∀ g, B = some g → g < w.heap.size)) :
    Calls Tryd.prog 47 #[.slice (some ⟨g, 0, none⟩) 3 3] w fun e w' => ∃ u v, e = .returned (.tuple #[u, v]) ∧ SlB F w' B u (outD (pickL L0 L1 L2)) ∧ SlB F w' B v (carD (pickL L0 L1 L2)) ∧ Below w.heap.size w w' := by
  obtain ⟨T, hT⟩ : ∃ T : List Tk, T = [(s0, L0), (s1, L1), (s2, L2)] := ⟨_, rfl⟩
  have HTT : Hid (T = [(s0, L0), (s1, L1), (s2, L2)]) := hT
  have HAll : Hid (∀ t ∈ T, SlB F w B (.slice t.1.1 t.1.2.1 t.1.2.2) t.2 ∧ t.2.length ≤ 1000) := by
    show ∀ t ∈ T, _
    rw [hT]
    intro t ht
    simp only [List.mem_cons, List.not_mem_nil, or_false] at ht
    rcases ht with rfl | rfl | rfl
    · exact ⟨HS0.out, HL.out.1⟩
    · exact ⟨HS1.out, HL.out.2.1⟩
    · exact ⟨HS2.out, HL.out.2.2⟩
  have HP : Hid (pickL L0 L1 L2 = (keepT T).map (·.2)) := by
    show _ = _
    rw [hT, keepT_pick HS0.out.sl.pos.1 HS1.out.sl.pos.1 HS2.out.sl.pos.1]
  have HC : Hid (∀ k t, T[k]? = some t → w.cell? ⟨g, k, none⟩ = some (.slice t.1.1 t.1.2.1 t.1.2.2)) := by
    show ∀ k t, _
    intro k t ht
    have := HT.out.row (i := k) (s := t.1) (by
      rw [hT] at ht
      match k, ht with
      | 0, ht => cases ht; rfl
      | 1, ht => cases ht; rfl
      | 2, ht => cases ht; rfl
      | k + 3, ht => simp at ht)
    rw [Nat.zero_add] at this
    exact this
  have HTL : Hid (T.length = 3) := by show _ = _; rw [hT]; rfl
  have hgw : g < w.heap.size := HT.out.1
  clear hT HT HS0 HS1 HS2 HL
  go_enter Tryd.func47, Tryd.ntmps47
  go_wp2
  go_loopg [4, 10] 3 (fun gg v4 v10 wr => ∃ (k m c : Nat) (p : Option Addr), v4 = .slice p m c ∧ v10 = .int .i64 k ∧ k ≤ 3 ∧ 3 - k ≤ gg ∧ m ≤ k ∧ Hid ((keepT (T.take k)).length = m) ∧ Hid (OwnE ES wr w.heap.size (.slice p m c) ((keepT (T.take k)).map (·.1))) ∧ Hid (Below w.heap.size w wr))
  case atStart => exact ⟨0, 0, 0, _, rfl, rfl, by omega, by omega, by omega, rfl, OwnE.lit ES w, (Below.refl _ _).alloc (Nat.le_refl _) _⟩
  case round =>
    obtain ⟨k, m, c, p, rfl, rfl, hk, hg, hm, HM, HO, HB⟩ := hrel
    have hB : w.heap.size ≤ wr.heap.size := HB.out.size
    have hgr : g < wr.heap.size := by omega
    by_cases hlt : k < 3
    · have hlz : (k : Int) < 3 := by omega
      obtain ⟨⟨⟨q, n, c'⟩, l⟩, ht⟩ : ∃ t, T[k]? = some t := ⟨T[k]'(by rw [HTL.out]; exact hlt), by simp⟩
      have t0 := (HB.out.cell (p := ⟨g, k, none⟩) hgw).trans (HC.out k _ ht)
      simp only at t0
      rcases Nat.eq_zero_or_pos n with rfl | hn
      · have HE : Hid (keepT (T.take (k + 1)) = keepT (T.take k)) := keepT_no ht (by simp)
        clear ht
        go_wp2
        go_roundg (3 - (k + 1))
        case measure => omega
        case rel => exact ⟨k + 1, m, c, p, rfl, by go_num, by omega, Nat.le_refl _, by omega, by show _ = _; rw [HE.out]; exact HM.out, by show OwnE _ _ _ _ _; rw [HE.out]; exact HO.out, HB⟩
      · have hnz : (0 : Int) < (n : Int) := by omega
        have HE : Hid (keepT (T.take (k + 1)) = keepT (T.take k) ++ [((q, n, c'), l)]) := keepT_yes ht hn
        clear ht
        go_wp2_with (at_builtin; refine wpList_appendE ES rfl (.tmp 17) (.tmp 19) rfl w.heap.size _ _ (q, n, c') ⟨wr.heap.size, 0, none⟩ 1 rfl (HO.out.alloc _) rfl (new_row wr _ rfl q n c') (by rw [List.length_map, HM.out]; omega) (by simp; omega) ?_; intro v1 w1 hA1 hg1 _)
        have hb1 : Below w.heap.size w w1 := (HB.out.alloc hB _).trans (below_ownE (HO.out.alloc _) hg1 (Nat.le_refl _) (by simp; omega))
        obtain ⟨p1, c1, hv1⟩ := hA1.form
        have hlen : ((keepT (T.take k)).map (·.1) ++ [(q, n, c')]).length = m + 1 := by rw [List.length_append, List.length_map, HM.out]; rfl
        rw [hlen] at hv1
        subst hv1
        go_roundg (3 - (k + 1))
        case measure => omega
        case rel => exact ⟨k + 1, m + 1, c1, p1, rfl, by go_num, by omega, Nat.le_refl _, by omega, by show _ = _; rw [HE.out, List.length_append, HM.out]; rfl, by show OwnE _ _ _ _ _; rw [HE.out, List.map_append]; exact hA1, hb1⟩
    · obtain rfl : k = 3 := by omega
      have HTk : Hid (T.take 3 = T) := by show _ = _; rw [← HTL.out, List.take_length]
      have HO2 : Hid (OwnE ES wr w.heap.size (.slice p m c) ((keepT T).map (·.1))) := by show OwnE _ _ _ _ _; have := HO.out; rw [HTk.out] at this; exact this
      have HM2 : Hid ((keepT T).length = m) := by show _ = _; have := HM.out; rw [HTk.out] at this; exact this
      have HK : Hid (∀ t ∈ keepT T, SlB F wr B (.slice t.1.1 t.1.2.1 t.1.2.2) t.2 ∧ t.2.length ≤ 1000 ∧ t.2 ≠ []) := by
        show ∀ t ∈ keepT T, _
        intro t ht
        obtain ⟨h1, h2⟩ := List.mem_filter.1 ht
        obtain ⟨h3, h4⟩ := HAll.out t h1
        refine ⟨h3.below HB.out, h4, fun e => ?_⟩
        have := h3.sl.pos.1
        rw [e] at this
        have h5 := of_decide_eq_true h2
        simp only [List.length_nil] at this
        omega
      clear HO HM HTk HC HTT HTL HAll
      generalize keepT T = ts at HO2 HM2 HK HP
      have hts : ts.length ≤ 3 := by rw [HM2.out]; exact hm
      match ts, hts with
      | [], _ =>
        obtain rfl : m = 0 := HM2.out.symm
        go_wp2
        go_ret2
        exact ⟨_, _, rfl, by rw [HP.out]; exact SlB.nil _ _ _, by rw [HP.out]; exact SlB.nil _ _ _, HB.out⟩
      | [((qa, na, ca), la)], _ =>
        obtain rfl : m = 1 := HM2.out.symm
        obtain ⟨g1, cp, e1, _, hcp, hr1, _⟩ := HO2.out.some (n := 1) rfl (by decide)
        simp only [Value.slice.injEq] at e1
        obtain ⟨rfl, _, rfl⟩ := e1
        have a0 := hr1.row (i := 0) rfl
        simp only [Nat.add_zero] at a0
        have hg1 : g1 < wr.heap.size := hr1.1
        have HA : Hid (SlB F wr B (.slice qa na ca) la) := (HK.out _ List.mem_cons_self).1
        clear hr1 HK HO2
        by_cases hc : c = 1
        · subst hc
          go_wp2_with fail
          go_quiet (fail)
          go_wp2
          go_ret2
          exact ⟨_, _, rfl, by rw [HP.out]; exact HA.out.below (below_drewN (Below.refl _ _) nq), by rw [HP.out]; exact SlB.nil _ _ _, below_drewN HB.out nq⟩
        · go_wp2_with fail
          go_quiet (fail)
          go_wp2
          go_ret2
          exact ⟨_, _, rfl, by rw [HP.out]; exact HA.out.below (below_drewN (Below.refl _ _) nq), by rw [HP.out]; exact SlB.nil _ _ _, below_drewN HB.out nq⟩
      | [((qa, na, ca), la), ((qb, nb, cb), lb)], _ =>
        obtain rfl : m = 2 := HM2.out.symm
        obtain ⟨g1, cp, e1, _, hcp, hr1, _⟩ := HO2.out.some (n := 2) rfl (by decide)
        simp only [Value.slice.injEq] at e1
        obtain ⟨rfl, _, rfl⟩ := e1
        have a0 := hr1.row (i := 0) rfl
        have a1 := hr1.row (i := 1) rfl
        simp only [Nat.add_zero, Nat.zero_add] at a0 a1
        have hg1 : g1 < wr.heap.size := hr1.1
        obtain ⟨ka, kla, kna⟩ := HK.out _ List.mem_cons_self
        obtain ⟨kb, klb, knb⟩ := HK.out ((qb, nb, cb), lb) (List.mem_cons_of_mem _ List.mem_cons_self)
        have CL : Hid (∀ W, Below wr.heap.size wr W → Calls Tryd.prog 55 #[.slice qa na ca, .slice qb nb cb] W fun e w' => ∃ u, e = .returned u ∧ OwnI w' W.heap.size u (linkL la lb) ∧ Below W.heap.size W w') := fun W hb => linked_any _ _ la lb W (ka.sl.below hb) (kb.sl.below hb) kna knb kla klb
        clear hr1 HK HO2 ka kb
        go_wp2_with fail
        go_region_held3 (fun w' => w'.cell? ⟨g1, 0, none⟩ = some (.slice qa na ca) ∧ w'.cell? ⟨g1, 1, none⟩ = some (.slice qb nb cb)) (first | go_keep | (exact ⟨j0, j1⟩)) (first | (go_at_call 55; refine (CL.out _ (below_drewN (Below.refl _ _) 1)).mono ?_; rintro e w2 ⟨v2, rfl, ho2, hb2'⟩; have hb2 : Below wr.heap.size wr w2 := (below_drewN (Below.refl _ _) 1).trans hb2'; have j0 := (hb2.cell (p := ⟨g1, 0, none⟩) hg1).trans a0; have j1 := (hb2.cell (p := ⟨g1, 1, none⟩) hg1).trans a1; have HO3 : Hid (SlB F w2 B v2 (linkL la lb)) := SlB.fresh ho2 (fun g e => Nat.lt_of_lt_of_le (HBB.out g e) hB) (fun g e => Nat.lt_of_lt_of_le (HF.out g e) hB); clear ho2 hb2'))
        all_goals
          go_wp2
          go_ret2
          exact ⟨_, _, rfl, by rw [HP.out]; exact SlB.nil _ _ _, by rw [HP.out]; exact HO3.out, HB.out.trans (hb2.mono HB.out.size)⟩
      | [((qa, na, ca), la), ((qb, nb, cb), lb), ((qd, nd, cd), ld)], _ =>
        obtain rfl : m = 3 := HM2.out.symm
        obtain ⟨g1, cp, e1, _, hcp, hr1, _⟩ := HO2.out.some (n := 3) rfl (by decide)
        simp only [Value.slice.injEq] at e1
        obtain ⟨rfl, _, rfl⟩ := e1
        have a0 := hr1.row (i := 0) rfl
        have a1 := hr1.row (i := 1) rfl
        have a2 := hr1.row (i := 2) rfl
        simp only [Nat.add_zero, Nat.zero_add] at a0 a1 a2
        have hg1 : g1 < wr.heap.size := hr1.1
        obtain ⟨ka, _, _⟩ := HK.out _ List.mem_cons_self
        obtain ⟨kb, klb, knb⟩ := HK.out ((qb, nb, cb), lb) (List.mem_cons_of_mem _ List.mem_cons_self)
        obtain ⟨kd, kld, knd⟩ := HK.out ((qd, nd, cd), ld) (List.mem_cons_of_mem _ (List.mem_cons_of_mem _ List.mem_cons_self))
        have CL : Hid (∀ W, Below wr.heap.size wr W → Calls Tryd.prog 55 #[.slice qb nb cb, .slice qd nd cd] W fun e w' => ∃ u, e = .returned u ∧ OwnI w' W.heap.size u (linkL lb ld) ∧ Below W.heap.size W w') := fun W hb => linked_any _ _ lb ld W (kb.sl.below hb) (kd.sl.below hb) knb knd klb kld
        have HA : Hid (SlB F wr B (.slice qa na ca) la) := ka
        have hc1 : ¬ c = 1 := by omega
        clear hr1 HK HO2 ka kb kd
        go_wp2_with fail
        go_quiet (fail)
        have hq : Below wr.heap.size wr (wr.drewN nq) := below_drewN (Below.refl _ _) nq
        have d1 : (wr.drewN nq).cell? ⟨g1, 1, none⟩ = some (.slice qb nb cb) := a1
        have d2 : (wr.drewN nq).cell? ⟨g1, 2, none⟩ = some (.slice qd nd cd) := a2
        have hgq : g1 < (wr.drewN nq).heap.size := hg1
        have hwq : wr.heap.size ≤ (wr.drewN nq).heap.size := Nat.le_refl _
        clear a0 a1 a2
        generalize wr.drewN nq = wq at hq d1 d2 hgq hwq ⊢
        go_wp2_with fail
        go_region_held3 (fun w' => w'.cell? ⟨g1, 1, none⟩ = some (.slice qb nb cb) ∧ w'.cell? ⟨g1, 2, none⟩ = some (.slice qd nd cd)) (first | go_keep | (exact ⟨j0, j1⟩)) (first | (go_at_call 55; refine (CL.out _ (hq.trans ((below_drewN (Below.refl _ _) 1).mono hwq))).mono ?_; rintro e w2 ⟨v2, rfl, ho2, hb2'⟩; have hb3 : Below wq.heap.size wq w2 := (below_drewN (Below.refl _ _) 1).trans hb2'; have hb2 : Below wr.heap.size wr w2 := hq.trans (hb3.mono hwq); have j0 := (hb3.cell (p := ⟨g1, 1, none⟩) hgq).trans d1; have j1 := (hb3.cell (p := ⟨g1, 2, none⟩) hgq).trans d2; have HO3 : Hid (SlB F w2 B v2 (linkL lb ld)) := SlB.fresh ho2 (fun g e => Nat.lt_of_lt_of_le (HBB.out g e) (Nat.le_trans hB hwq)) (fun g e => Nat.lt_of_lt_of_le (HF.out g e) (Nat.le_trans hB hwq)); clear ho2 hb2'))
        all_goals
          go_wp2
          go_ret2
          exact ⟨_, _, rfl, by rw [HP.out]; exact HA.out.below hb2, by rw [HP.out]; exact HO3.out, HB.out.trans (hb2.mono HB.out.size)⟩
      | a :: b :: d :: e :: r, h => simp at h
#print axioms added_some
end Go.Proofs.YtmkjalpgeljnkaaDoor
