/-
  Texts that the proof leans on, packed: DAdd, DMeld, Laid, DWrit, DApi.
-/
import Derived.Test.YtmkjalpgeljnkaaDoorPack4
import Derived.Test.YtmkjalpgeljnkaaDoorPack3
import Derived.Test.YtmkjalpgeljnkaaDoorPack2
import Derived.Deep.RegionHeld3

/-
  bino.added: of the trees of one rank which one stays, and what is carried.
-/
namespace Go.Proofs.YtmkjalpgeljnkaaDoor
open Go.RowKit Go.Sort Go.Proofs

/-- A slice, and what it holds. -/
abbrev Tk := SlV × List (Int × Int)
/-- Those that hold something. -/
def keepT (ts : List Tk) : List Tk := ts.filter fun t => decide (0 < t.1.2.1)
theorem keepT_yes {T : List Tk} {k : Nat} {t : Tk} (h : T[k]? = some t) (hp : 0 < t.1.2.1) : keepT (T.take (k + 1)) = keepT (T.take k) ++ [t] := by
  obtain ⟨hk, e⟩ := List.getElem?_eq_some_iff.1 h
  unfold keepT
  rw [List.take_succ_eq_append_getElem hk, List.filter_append, e]
  simp [hp]
theorem keepT_no {T : List Tk} {k : Nat} {t : Tk} (h : T[k]? = some t) (hp : ¬ 0 < t.1.2.1) : keepT (T.take (k + 1)) = keepT (T.take k) := by
  obtain ⟨hk, e⟩ := List.getElem?_eq_some_iff.1 h
  unfold keepT
  rw [List.take_succ_eq_append_getElem hk, List.filter_append, e]
  simp [hp]
theorem keepT_pick {s0 s1 s2 : SlV} {c x y : List (Int × Int)} (h0 : s0.2.1 = c.length) (h1 : s1.2.1 = x.length) (h2 : s2.2.1 = y.length) : (keepT [(s0, c), (s1, x), (s2, y)]).map (·.2) = pickL c x y := by
  unfold keepT pickL optL
  have e : ∀ {l : List (Int × Int)}, (0 < l.length) ↔ l ≠ [] := fun {l} => List.length_pos_iff
  by_cases a : c = [] <;> by_cases b : x = [] <;> by_cases d : y = [] <;> simp [h0, h1, h2, e, a, b, d]
theorem OwnE.lit {P : Program} {α : Type} (E : El P α) (w : World) : OwnE E (w.alloc (.cells #[] E.T)) w.heap.size (.slice (Option.some ⟨w.heap.size, 0, none⟩) 0 0) [] := by
  have := World.ownsRow_lit (base := w.heap.size) (e := E.T) (size := E.K) w #[] 0 (Nat.le_refl _) (Nat.zero_le _) (by simp)
  exact this
theorem Sl.pos {w : World} {p : Option Addr} {n c : Nat} {l : List (Int × Int)} (h : Sl w (.slice p n c) l.toArray) : n = l.length ∧ l.length ≤ c := by
  obtain ⟨p', c', e, hc, _⟩ := h
  simp only [Value.slice.injEq, List.size_toArray] at e hc
  obtain ⟨rfl, rfl, rfl⟩ := e
  exact ⟨rfl, hc⟩

set_option maxHeartbeats 16000000 in
set_option maxRecDepth 4000 in
theorem added_some (F : Nat → Prop) (B : Option Nat) (g : Nat) (s0 s1 s2 : SlV) (L0 L1 L2 : List (Int × Int)) (w : World) (HT : Hid (RdE ES w g 0 [s0, s1, s2])) (HS0 : Hid (SlB F w B (.slice s0.1 s0.2.1 s0.2.2) L0)) (HS1 : Hid (SlB F w B (.slice s1.1 s1.2.1 s1.2.2) L1)) (HS2 : Hid (SlB F w B (.slice s2.1 s2.2.1 s2.2.2) L2)) (HL : Hid (L0.length ≤ 1000 ∧ L1.length ≤ 1000 ∧ L2.length ≤ 1000)) (HF : Hid (∀ g, F g → g < w.heap.size)) (HBB : Hid (∀ g, B = some g → g < w.heap.size)) :
    Calls Tryd.prog 47 #[.slice (some ⟨g, 0, none⟩) 3 3] w fun e w' => ∃ u v, e = .returned (.tuple #[u, v]) ∧ SlB F w' B u (outD (pickL L0 L1 L2)) ∧ SlB F w' B v (carD (pickL L0 L1 L2)) ∧ Below w.heap.size w w' := by
  obtain ⟨T, hT⟩ : ∃ T : List Tk, T = [(s0, L0), (s1, L1), (s2, L2)] := ⟨_, rfl⟩
  have HTT : Hid (T = [(s0, L0), (s1, L1), (s2, L2)]) := hT
  have HAll : Hid (∀ t ∈ T, SlB F w B (.slice t.1.1 t.1.2.1 t.1.2.2) t.2 ∧ t.2.length ≤ 1000) := by
    show ∀ t ∈ T, _
    rw [hT]
    intro t ht
    simp only [List.mem_cons, List.not_mem_nil, or_false] at ht
    rcases ht with rfl | rfl | rfl
    · exact ⟨HS0.out, HL.out.1⟩
    · exact ⟨HS1.out, HL.out.2.1⟩
    · exact ⟨HS2.out, HL.out.2.2⟩
  have HP : Hid (pickL L0 L1 L2 = (keepT T).map (·.2)) := by
    show _ = _
    rw [hT, keepT_pick HS0.out.sl.pos.1 HS1.out.sl.pos.1 HS2.out.sl.pos.1]
  have HC : Hid (∀ k t, T[k]? = some t → w.cell? ⟨g, k, none⟩ = some (.slice t.1.1 t.1.2.1 t.1.2.2)) := by
    show ∀ k t, _
    intro k t ht
    have := HT.out.row (i := k) (s := t.1) (by
      rw [hT] at ht
      match k, ht with
      | 0, ht => cases ht; rfl
      | 1, ht => cases ht; rfl
      | 2, ht => cases ht; rfl
      | k + 3, ht => simp at ht)
    rw [Nat.zero_add] at this
    exact this
  have HTL : Hid (T.length = 3) := by show _ = _; rw [hT]; rfl
  have hgw : g < w.heap.size := HT.out.1
  clear hT HT HS0 HS1 HS2 HL
  go_enter Tryd.func47, Tryd.ntmps47
  go_wp2
  go_loopg [4, 10] 3 (fun gg v4 v10 wr => ∃ (k m c : Nat) (p : Option Addr), v4 = .slice p m c ∧ v10 = .int .i64 k ∧ k ≤ 3 ∧ 3 - k ≤ gg ∧ m ≤ k ∧ Hid ((keepT (T.take k)).length = m) ∧ Hid (OwnE ES wr w.heap.size (.slice p m c) ((keepT (T.take k)).map (·.1))) ∧ Hid (Below w.heap.size w wr))
  case atStart => exact ⟨0, 0, 0, _, rfl, rfl, by omega, by omega, by omega, rfl, OwnE.lit ES w, (Below.refl _ _).alloc (Nat.le_refl _) _⟩
  case round =>
    obtain ⟨k, m, c, p, rfl, rfl, hk, hg, hm, HM, HO, HB⟩ := hrel
    have hB : w.heap.size ≤ wr.heap.size := HB.out.size
    have hgr : g < wr.heap.size := by omega
    by_cases hlt : k < 3
    · have hlz : (k : Int) < 3 := by omega
      obtain ⟨⟨⟨q, n, c'⟩, l⟩, ht⟩ : ∃ t, T[k]? = some t := ⟨T[k]'(by rw [HTL.out]; exact hlt), by simp⟩
      have t0 := (HB.out.cell (p := ⟨g, k, none⟩) hgw).trans (HC.out k _ ht)
      simp only at t0
      rcases Nat.eq_zero_or_pos n with rfl | hn
      · have HE : Hid (keepT (T.take (k + 1)) = keepT (T.take k)) := keepT_no ht (by simp)
        clear ht
        go_wp2
        go_roundg (3 - (k + 1))
        case measure => omega
        case rel => exact ⟨k + 1, m, c, p, rfl, by go_num, by omega, Nat.le_refl _, by omega, by show _ = _; rw [HE.out]; exact HM.out, by show OwnE _ _ _ _ _; rw [HE.out]; exact HO.out, HB⟩
      · have hnz : (0 : Int) < (n : Int) := by omega
        have HE : Hid (keepT (T.take (k + 1)) = keepT (T.take k) ++ [((q, n, c'), l)]) := keepT_yes ht hn
        clear ht
        go_wp2_with (at_builtin; refine wpList_appendE ES rfl (.tmp 17) (.tmp 19) rfl w.heap.size _ _ (q, n, c') ⟨wr.heap.size, 0, none⟩ 1 rfl (HO.out.alloc _) rfl (new_row wr _ rfl q n c') (by rw [List.length_map, HM.out]; omega) (by simp; omega) ?_; intro v1 w1 hA1 hg1 _)
        have hb1 : Below w.heap.size w w1 := (HB.out.alloc hB _).trans (below_ownE (HO.out.alloc _) hg1 (Nat.le_refl _) (by simp; omega))
        obtain ⟨p1, c1, hv1⟩ := hA1.form
        have hlen : ((keepT (T.take k)).map (·.1) ++ [(q, n, c')]).length = m + 1 := by rw [List.length_append, List.length_map, HM.out]; rfl
        rw [hlen] at hv1
        subst hv1
        go_roundg (3 - (k + 1))
        case measure => omega
        case rel => exact ⟨k + 1, m + 1, c1, p1, rfl, by go_num, by omega, Nat.le_refl _, by omega, by show _ = _; rw [HE.out, List.length_append, HM.out]; rfl, by show OwnE _ _ _ _ _; rw [HE.out, List.map_append]; exact hA1, hb1⟩
    · obtain rfl : k = 3 := by omega
      have HTk : Hid (T.take 3 = T) := by show _ = _; rw [← HTL.out, List.take_length]
      have HO2 : Hid (OwnE ES wr w.heap.size (.slice p m c) ((keepT T).map (·.1))) := by show OwnE _ _ _ _ _; have := HO.out; rw [HTk.out] at this; exact this
      have HM2 : Hid ((keepT T).length = m) := by show _ = _; have := HM.out; rw [HTk.out] at this; exact this
      have HK : Hid (∀ t ∈ keepT T, SlB F wr B (.slice t.1.1 t.1.2.1 t.1.2.2) t.2 ∧ t.2.length ≤ 1000 ∧ t.2 ≠ []) := by
        show ∀ t ∈ keepT T, _
        intro t ht
        obtain ⟨h1, h2⟩ := List.mem_filter.1 ht
        obtain ⟨h3, h4⟩ := HAll.out t h1
        refine ⟨h3.below HB.out, h4, fun e => ?_⟩
        have := h3.sl.pos.1
        rw [e] at this
        have h5 := of_decide_eq_true h2
        simp only [List.length_nil] at this
        omega
      clear HO HM HTk HC HTT HTL HAll
      generalize keepT T = ts at HO2 HM2 HK HP
      have hts : ts.length ≤ 3 := by rw [HM2.out]; exact hm
      match ts, hts with
      | [], _ =>
        obtain rfl : m = 0 := HM2.out.symm
        go_wp2
        go_ret2
        exact ⟨_, _, rfl, by rw [HP.out]; exact SlB.nil _ _ _, by rw [HP.out]; exact SlB.nil _ _ _, HB.out⟩
      | [((qa, na, ca), la)], _ =>
        obtain rfl : m = 1 := HM2.out.symm
        obtain ⟨g1, cp, e1, _, hcp, hr1, _⟩ := HO2.out.some (n := 1) rfl (by decide)
        simp only [Value.slice.injEq] at e1
        obtain ⟨rfl, _, rfl⟩ := e1
        have a0 := hr1.row (i := 0) rfl
        simp only [Nat.add_zero] at a0
        have hg1 : g1 < wr.heap.size := hr1.1
        have HA : Hid (SlB F wr B (.slice qa na ca) la) := (HK.out _ List.mem_cons_self).1
        clear hr1 HK HO2
        by_cases hc : c = 1
        · subst hc
          go_wp2_with fail
          go_quiet (fail)
          go_wp2
          go_ret2
          exact ⟨_, _, rfl, by rw [HP.out]; exact HA.out.below (below_drewN (Below.refl _ _) nq), by rw [HP.out]; exact SlB.nil _ _ _, below_drewN HB.out nq⟩
        · go_wp2_with fail
          go_quiet (fail)
          go_wp2
          go_ret2
          exact ⟨_, _, rfl, by rw [HP.out]; exact HA.out.below (below_drewN (Below.refl _ _) nq), by rw [HP.out]; exact SlB.nil _ _ _, below_drewN HB.out nq⟩
      | [((qa, na, ca), la), ((qb, nb, cb), lb)], _ =>
        obtain rfl : m = 2 := HM2.out.symm
        obtain ⟨g1, cp, e1, _, hcp, hr1, _⟩ := HO2.out.some (n := 2) rfl (by decide)
        simp only [Value.slice.injEq] at e1
        obtain ⟨rfl, _, rfl⟩ := e1
        have a0 := hr1.row (i := 0) rfl
        have a1 := hr1.row (i := 1) rfl
        simp only [Nat.add_zero, Nat.zero_add] at a0 a1
        have hg1 : g1 < wr.heap.size := hr1.1
        obtain ⟨ka, kla, kna⟩ := HK.out _ List.mem_cons_self
        obtain ⟨kb, klb, knb⟩ := HK.out ((qb, nb, cb), lb) (List.mem_cons_of_mem _ List.mem_cons_self)
        have CL : Hid (∀ W, Below wr.heap.size wr W → Calls Tryd.prog 55 #[.slice qa na ca, .slice qb nb cb] W fun e w' => ∃ u, e = .returned u ∧ OwnI w' W.heap.size u (linkL la lb) ∧ Below W.heap.size W w') := fun W hb => linked_any _ _ la lb W (ka.sl.below hb) (kb.sl.below hb) kna knb kla klb
        clear hr1 HK HO2 ka kb
        go_wp2_with fail
        go_region_held3 (fun w' => w'.cell? ⟨g1, 0, none⟩ = some (.slice qa na ca) ∧ w'.cell? ⟨g1, 1, none⟩ = some (.slice qb nb cb)) (first | go_keep | (exact ⟨j0, j1⟩)) (first | (go_at_call 55; refine (CL.out _ (below_drewN (Below.refl _ _) 1)).mono ?_; rintro e w2 ⟨v2, rfl, ho2, hb2'⟩; have hb2 : Below wr.heap.size wr w2 := (below_drewN (Below.refl _ _) 1).trans hb2'; have j0 := (hb2.cell (p := ⟨g1, 0, none⟩) hg1).trans a0; have j1 := (hb2.cell (p := ⟨g1, 1, none⟩) hg1).trans a1; have HO3 : Hid (SlB F w2 B v2 (linkL la lb)) := SlB.fresh ho2 (fun g e => Nat.lt_of_lt_of_le (HBB.out g e) hB) (fun g e => Nat.lt_of_lt_of_le (HF.out g e) hB); clear ho2 hb2'))
        all_goals
          go_wp2
          go_ret2
          exact ⟨_, _, rfl, by rw [HP.out]; exact SlB.nil _ _ _, by rw [HP.out]; exact HO3.out, HB.out.trans (hb2.mono HB.out.size)⟩
      | [((qa, na, ca), la), ((qb, nb, cb), lb), ((qd, nd, cd), ld)], _ =>
        obtain rfl : m = 3 := HM2.out.symm
        obtain ⟨g1, cp, e1, _, hcp, hr1, _⟩ := HO2.out.some (n := 3) rfl (by decide)
        simp only [Value.slice.injEq] at e1
        obtain ⟨rfl, _, rfl⟩ := e1
        have a0 := hr1.row (i := 0) rfl
        have a1 := hr1.row (i := 1) rfl
        have a2 := hr1.row (i := 2) rfl
        simp only [Nat.add_zero, Nat.zero_add] at a0 a1 a2
        have hg1 : g1 < wr.heap.size := hr1.1
        obtain ⟨ka, _, _⟩ := HK.out _ List.mem_cons_self
        obtain ⟨kb, klb, knb⟩ := HK.out ((qb, nb, cb), lb) (List.mem_cons_of_mem _ List.mem_cons_self)
        obtain ⟨kd, kld, knd⟩ := HK.out ((qd, nd, cd), ld) (List.mem_cons_of_mem _ (List.mem_cons_of_mem _ List.mem_cons_self))
        have CL : Hid (∀ W, Below wr.heap.size wr W → Calls Tryd.prog 55 #[.slice qb nb cb, .slice qd nd cd] W fun e w' => ∃ u, e = .returned u ∧ OwnI w' W.heap.size u (linkL lb ld) ∧ Below W.heap.size W w') := fun W hb => linked_any _ _ lb ld W (kb.sl.below hb) (kd.sl.below hb) knb knd klb kld
        have HA : Hid (SlB F wr B (.slice qa na ca) la) := ka
        have hc1 : ¬ c = 1 := by omega
        clear hr1 HK HO2 ka kb kd
        go_wp2_with fail
        go_quiet (fail)
        have hq : Below wr.heap.size wr (wr.drewN nq) := below_drewN (Below.refl _ _) nq
        have d1 : (wr.drewN nq).cell? ⟨g1, 1, none⟩ = some (.slice qb nb cb) := a1
        have d2 : (wr.drewN nq).cell? ⟨g1, 2, none⟩ = some (.slice qd nd cd) := a2
        have hgq : g1 < (wr.drewN nq).heap.size := hg1
        have hwq : wr.heap.size ≤ (wr.drewN nq).heap.size := Nat.le_refl _
        clear a0 a1 a2
        generalize wr.drewN nq = wq at hq d1 d2 hgq hwq ⊢
        go_wp2_with fail
        go_region_held3 (fun w' => w'.cell? ⟨g1, 1, none⟩ = some (.slice qb nb cb) ∧ w'.cell? ⟨g1, 2, none⟩ = some (.slice qd nd cd)) (first | go_keep | (exact ⟨j0, j1⟩)) (first | (go_at_call 55; refine (CL.out _ (hq.trans ((below_drewN (Below.refl _ _) 1).mono hwq))).mono ?_; rintro e w2 ⟨v2, rfl, ho2, hb2'⟩; have hb3 : Below wq.heap.size wq w2 := (below_drewN (Below.refl _ _) 1).trans hb2'; have hb2 : Below wr.heap.size wr w2 := hq.trans (hb3.mono hwq); have j0 := (hb3.cell (p := ⟨g1, 1, none⟩) hgq).trans d1; have j1 := (hb3.cell (p := ⟨g1, 2, none⟩) hgq).trans d2; have HO3 : Hid (SlB F w2 B v2 (linkL lb ld)) := SlB.fresh ho2 (fun g e => Nat.lt_of_lt_of_le (HBB.out g e) (Nat.le_trans hB hwq)) (fun g e => Nat.lt_of_lt_of_le (HF.out g e) (Nat.le_trans hB hwq)); clear ho2 hb2'))
        all_goals
          go_wp2
          go_ret2
          exact ⟨_, _, rfl, by rw [HP.out]; exact HA.out.below hb2, by rw [HP.out]; exact HO3.out, HB.out.trans (hb2.mono HB.out.size)⟩
      | a :: b :: d :: e :: r, h => simp at h
#print axioms added_some
end Go.Proofs.YtmkjalpgeljnkaaDoor

/-
  bino.melded: two heaps added rank by rank.
-/
namespace Go.Proofs.YtmkjalpgeljnkaaDoor
open Go.RowKit Go.Sort Go.Proofs

/-- What is in the heap at a rank, of two that are melded. -/
def outAt (x y : Nat → List (Int × Int)) (j : Nat) : List (Int × Int) := outD (pickL (carTo x y j 0 []) (x j) (y j))
theorem carTo_snoc (x y : Nat → List (Int × Int)) : ∀ (n r : Nat) (c : List (Int × Int)), carTo x y (n + 1) r c = carD (pickL (carTo x y n r c) (x (r + n)) (y (r + n)))
  | 0, r, c => rfl
  | n + 1, r, c => by
    show carTo x y (n + 1) (r + 1) _ = carD (pickL (carTo x y n (r + 1) _) (x (r + (n + 1))) (y (r + (n + 1))))
    rw [carTo_snoc x y n (r + 1), show r + 1 + n = r + (n + 1) by omega]
theorem carTo_next (x y : Nat → List (Int × Int)) (k : Nat) : carD (pickL (carTo x y k 0 []) (x k) (y k)) = carTo x y (k + 1) 0 [] := by
  rw [carTo_snoc, Nat.zero_add]
theorem meldTo_add (x y : Nat → List (Int × Int)) : ∀ (n m r : Nat) (c : List (Int × Int)), meldTo x y (n + m) r c = meldTo x y n r c ++ meldTo x y m (r + n) (carTo x y n r c)
  | 0, m, r, c => by rw [Nat.zero_add]; rfl
  | n + 1, m, r, c => by
    rw [show n + 1 + m = (n + m) + 1 by omega]
    show putR r _ ++ meldTo x y (n + m) (r + 1) _ = (putR r _ ++ meldTo x y n (r + 1) _) ++ meldTo x y m (r + (n + 1)) (carTo x y n (r + 1) _)
    rw [meldTo_add x y n m (r + 1), List.append_assoc, show r + 1 + n = r + (n + 1) by omega]
theorem meldTo_snoc (x y : Nat → List (Int × Int)) (n : Nat) : meldTo x y (n + 1) 0 [] = meldTo x y n 0 [] ++ putR n (outAt x y n) := by
  rw [meldTo_add x y n 1 0, Nat.zero_add]
  congr 1
  show putR n _ ++ [] = _
  rw [List.append_nil]
  rfl
/-- Three slices in a block of their own. -/
theorem new_three (w : World) (s0 s1 s2 : SlV) (T : TypeId) (g : Nat) (hg : g = w.heap.size) : RdE ES (w.alloc (.cells #[.slice s0.1 s0.2.1 s0.2.2, .slice s1.1 s1.2.1 s1.2.2, .slice s2.1 s2.2.1 s2.2.2] T)) g 0 [s0, s1, s2] := by
  subst hg
  refine ⟨by simp, fun j v hv => ?_⟩
  rw [Nat.zero_add]
  match j, hv with
  | 0, hv => cases hv; simp
  | 1, hv => cases hv; simp
  | 2, hv => cases hv; simp
  | j + 3, hv => simp [El.flat, ES, encS] at hv

/-- Four arrays of six in blocks of their own. -/
theorem new_four (w : World) (a0 a1 a2 a3 a4 a5 b0 b1 b2 b3 b4 b5 : SlV) (T : TypeId) :
    WrE ES ((((w.alloc (.cells #[.slice a0.1 a0.2.1 a0.2.2, .slice a1.1 a1.2.1 a1.2.2, .slice a2.1 a2.2.1 a2.2.2, .slice a3.1 a3.2.1 a3.2.2, .slice a4.1 a4.2.1 a4.2.2, .slice a5.1 a5.2.1 a5.2.2] T)).alloc (.cells #[.slice b0.1 b0.2.1 b0.2.2, .slice b1.1 b1.2.1 b1.2.2, .slice b2.1 b2.2.1 b2.2.2, .slice b3.1 b3.2.1 b3.2.2, .slice b4.1 b4.2.1 b4.2.2, .slice b5.1 b5.2.1 b5.2.2] T)).alloc (.cells #[.slice none 0 0, .slice none 0 0, .slice none 0 0, .slice none 0 0, .slice none 0 0, .slice none 0 0] T)).alloc (.cells #[.slice none 0 0, .slice none 0 0, .slice none 0 0, .slice none 0 0, .slice none 0 0, .slice none 0 0] T)) w.heap.size 0 [a0, a1, a2, a3, a4, a5] ∧ WrE ES ((((w.alloc (.cells #[.slice a0.1 a0.2.1 a0.2.2, .slice a1.1 a1.2.1 a1.2.2, .slice a2.1 a2.2.1 a2.2.2, .slice a3.1 a3.2.1 a3.2.2, .slice a4.1 a4.2.1 a4.2.2, .slice a5.1 a5.2.1 a5.2.2] T)).alloc (.cells #[.slice b0.1 b0.2.1 b0.2.2, .slice b1.1 b1.2.1 b1.2.2, .slice b2.1 b2.2.1 b2.2.2, .slice b3.1 b3.2.1 b3.2.2, .slice b4.1 b4.2.1 b4.2.2, .slice b5.1 b5.2.1 b5.2.2] T)).alloc (.cells #[.slice none 0 0, .slice none 0 0, .slice none 0 0, .slice none 0 0, .slice none 0 0, .slice none 0 0] T)).alloc (.cells #[.slice none 0 0, .slice none 0 0, .slice none 0 0, .slice none 0 0, .slice none 0 0, .slice none 0 0] T)) (w.heap.size + 1) 0 [b0, b1, b2, b3, b4, b5] ∧ WrE ES ((((w.alloc (.cells #[.slice a0.1 a0.2.1 a0.2.2, .slice a1.1 a1.2.1 a1.2.2, .slice a2.1 a2.2.1 a2.2.2, .slice a3.1 a3.2.1 a3.2.2, .slice a4.1 a4.2.1 a4.2.2, .slice a5.1 a5.2.1 a5.2.2] T)).alloc (.cells #[.slice b0.1 b0.2.1 b0.2.2, .slice b1.1 b1.2.1 b1.2.2, .slice b2.1 b2.2.1 b2.2.2, .slice b3.1 b3.2.1 b3.2.2, .slice b4.1 b4.2.1 b4.2.2, .slice b5.1 b5.2.1 b5.2.2] T)).alloc (.cells #[.slice none 0 0, .slice none 0 0, .slice none 0 0, .slice none 0 0, .slice none 0 0, .slice none 0 0] T)).alloc (.cells #[.slice none 0 0, .slice none 0 0, .slice none 0 0, .slice none 0 0, .slice none 0 0, .slice none 0 0] T)) (w.heap.size + 1 + 1) 0 (List.replicate 6 (none, 0, 0)) ∧ WrE ES ((((w.alloc (.cells #[.slice a0.1 a0.2.1 a0.2.2, .slice a1.1 a1.2.1 a1.2.2, .slice a2.1 a2.2.1 a2.2.2, .slice a3.1 a3.2.1 a3.2.2, .slice a4.1 a4.2.1 a4.2.2, .slice a5.1 a5.2.1 a5.2.2] T)).alloc (.cells #[.slice b0.1 b0.2.1 b0.2.2, .slice b1.1 b1.2.1 b1.2.2, .slice b2.1 b2.2.1 b2.2.2, .slice b3.1 b3.2.1 b3.2.2, .slice b4.1 b4.2.1 b4.2.2, .slice b5.1 b5.2.1 b5.2.2] T)).alloc (.cells #[.slice none 0 0, .slice none 0 0, .slice none 0 0, .slice none 0 0, .slice none 0 0, .slice none 0 0] T)).alloc (.cells #[.slice none 0 0, .slice none 0 0, .slice none 0 0, .slice none 0 0, .slice none 0 0, .slice none 0 0] T)) (w.heap.size + 1 + 1 + 1) 0 (List.replicate 6 (none, 0, 0)) ∧ Below w.heap.size w ((((w.alloc (.cells #[.slice a0.1 a0.2.1 a0.2.2, .slice a1.1 a1.2.1 a1.2.2, .slice a2.1 a2.2.1 a2.2.2, .slice a3.1 a3.2.1 a3.2.2, .slice a4.1 a4.2.1 a4.2.2, .slice a5.1 a5.2.1 a5.2.2] T)).alloc (.cells #[.slice b0.1 b0.2.1 b0.2.2, .slice b1.1 b1.2.1 b1.2.2, .slice b2.1 b2.2.1 b2.2.2, .slice b3.1 b3.2.1 b3.2.2, .slice b4.1 b4.2.1 b4.2.2, .slice b5.1 b5.2.1 b5.2.2] T)).alloc (.cells #[.slice none 0 0, .slice none 0 0, .slice none 0 0, .slice none 0 0, .slice none 0 0, .slice none 0 0] T)).alloc (.cells #[.slice none 0 0, .slice none 0 0, .slice none 0 0, .slice none 0 0, .slice none 0 0, .slice none 0 0] T)) := by
  refine ⟨(((new_six w a0 a1 a2 a3 a4 a5 T).alloc' _).alloc' _).alloc' _, ?_, ?_, ?_, ((((Below.refl _ _).alloc (Nat.le_refl _) _).alloc (by simp) _).alloc (by simp; omega) _).alloc (by simp; omega) _⟩
  · have h := new_six (w.alloc (.cells #[.slice a0.1 a0.2.1 a0.2.2, .slice a1.1 a1.2.1 a1.2.2, .slice a2.1 a2.2.1 a2.2.2, .slice a3.1 a3.2.1 a3.2.2, .slice a4.1 a4.2.1 a4.2.2, .slice a5.1 a5.2.1 a5.2.2] T)) b0 b1 b2 b3 b4 b5 T
    rw [show (w.alloc (.cells #[.slice a0.1 a0.2.1 a0.2.2, .slice a1.1 a1.2.1 a1.2.2, .slice a2.1 a2.2.1 a2.2.2, .slice a3.1 a3.2.1 a3.2.2, .slice a4.1 a4.2.1 a4.2.2, .slice a5.1 a5.2.1 a5.2.2] T)).heap.size = w.heap.size + 1 by simp] at h
    exact (h.alloc' _).alloc' _
  · have h := new_nils ((w.alloc (.cells #[.slice a0.1 a0.2.1 a0.2.2, .slice a1.1 a1.2.1 a1.2.2, .slice a2.1 a2.2.1 a2.2.2, .slice a3.1 a3.2.1 a3.2.2, .slice a4.1 a4.2.1 a4.2.2, .slice a5.1 a5.2.1 a5.2.2] T)).alloc (.cells #[.slice b0.1 b0.2.1 b0.2.2, .slice b1.1 b1.2.1 b1.2.2, .slice b2.1 b2.2.1 b2.2.2, .slice b3.1 b3.2.1 b3.2.2, .slice b4.1 b4.2.1 b4.2.2, .slice b5.1 b5.2.1 b5.2.2] T)) T
    rw [show ((w.alloc (.cells #[.slice a0.1 a0.2.1 a0.2.2, .slice a1.1 a1.2.1 a1.2.2, .slice a2.1 a2.2.1 a2.2.2, .slice a3.1 a3.2.1 a3.2.2, .slice a4.1 a4.2.1 a4.2.2, .slice a5.1 a5.2.1 a5.2.2] T)).alloc (.cells #[.slice b0.1 b0.2.1 b0.2.2, .slice b1.1 b1.2.1 b1.2.2, .slice b2.1 b2.2.1 b2.2.2, .slice b3.1 b3.2.1 b3.2.2, .slice b4.1 b4.2.1 b4.2.2, .slice b5.1 b5.2.1 b5.2.2] T)).heap.size = w.heap.size + 1 + 1 by simp] at h
    exact h.alloc' _
  · have h := new_nils (((w.alloc (.cells #[.slice a0.1 a0.2.1 a0.2.2, .slice a1.1 a1.2.1 a1.2.2, .slice a2.1 a2.2.1 a2.2.2, .slice a3.1 a3.2.1 a3.2.2, .slice a4.1 a4.2.1 a4.2.2, .slice a5.1 a5.2.1 a5.2.2] T)).alloc (.cells #[.slice b0.1 b0.2.1 b0.2.2, .slice b1.1 b1.2.1 b1.2.2, .slice b2.1 b2.2.1 b2.2.2, .slice b3.1 b3.2.1 b3.2.2, .slice b4.1 b4.2.1 b4.2.2, .slice b5.1 b5.2.1 b5.2.2] T)).alloc (.cells #[.slice none 0 0, .slice none 0 0, .slice none 0 0, .slice none 0 0, .slice none 0 0, .slice none 0 0] T)) T
    rw [show (((w.alloc (.cells #[.slice a0.1 a0.2.1 a0.2.2, .slice a1.1 a1.2.1 a1.2.2, .slice a2.1 a2.2.1 a2.2.2, .slice a3.1 a3.2.1 a3.2.2, .slice a4.1 a4.2.1 a4.2.2, .slice a5.1 a5.2.1 a5.2.2] T)).alloc (.cells #[.slice b0.1 b0.2.1 b0.2.2, .slice b1.1 b1.2.1 b1.2.2, .slice b2.1 b2.2.1 b2.2.2, .slice b3.1 b3.2.1 b3.2.2, .slice b4.1 b4.2.1 b4.2.2, .slice b5.1 b5.2.1 b5.2.2] T)).alloc (.cells #[.slice none 0 0, .slice none 0 0, .slice none 0 0, .slice none 0 0, .slice none 0 0, .slice none 0 0] T)).heap.size = w.heap.size + 1 + 1 + 1 by simp] at h
    exact h

set_option maxHeartbeats 16000000 in
set_option maxRecDepth 4000 in
theorem melded_some (a0 a1 a2 a3 a4 a5 b0 b1 b2 b3 b4 b5 : SlV) (x y : Nat → List (Int × Int)) (w : World) (HA : Hid (DgAt w [a0, a1, a2, a3, a4, a5] x)) (HB : Hid (DgAt w [b0, b1, b2, b3, b4, b5] y)) (HX : Hid (∀ j, j < 6 → (x j).length ≤ 1000)) (HY : Hid (∀ j, j < 6 → (y j).length ≤ 1000)) (HZ : Hid (∀ j, j ≤ 6 → (carTo x y j 0 []).length ≤ 1000)) :
    Calls Tryd.prog 37 #[.agg #[.slice a0.1 a0.2.1 a0.2.2, .slice a1.1 a1.2.1 a1.2.2, .slice a2.1 a2.2.1 a2.2.2, .slice a3.1 a3.2.1 a3.2.2, .slice a4.1 a4.2.1 a4.2.2, .slice a5.1 a5.2.1 a5.2.2], .agg #[.slice b0.1 b0.2.1 b0.2.2, .slice b1.1 b1.2.1 b1.2.2, .slice b2.1 b2.2.1 b2.2.2, .slice b3.1 b3.2.1 b3.2.2, .slice b4.1 b4.2.1 b4.2.2, .slice b5.1 b5.2.1 b5.2.2]] w fun e w' => ∃ d, e = .returned (agV d) ∧ DgAt w' d (outAt x y) ∧ Below w.heap.size w w' := by
  go_enter Tryd.func37, Tryd.ntmps37
  go_wp2
  go_loopg [6, 8] 6 (fun gg v6 v8 wr => ∃ (k m c : Nat) (p : Option Addr) (d : List SlV), v6 = .slice p m c ∧ v8 = .int .i64 k ∧ k ≤ 6 ∧ 6 - k ≤ gg ∧ Hid (WrE ES wr w.heap.size 0 [a0, a1, a2, a3, a4, a5]) ∧ Hid (WrE ES wr (w.heap.size + 1) 0 [b0, b1, b2, b3, b4, b5]) ∧ Hid (WrE ES wr (w.heap.size + 1 + 1) 0 (List.replicate 6 (none, 0, 0))) ∧ Hid (WrE ES wr (w.heap.size + 1 + 1 + 1) 0 d) ∧ Hid (SlB (· = w.heap.size + 1 + 1 + 1) wr (some (w.heap.size + 1 + 1)) (.slice p m c) (carTo x y k 0 [])) ∧ Hid (DgB (· = w.heap.size + 1 + 1 + 1) wr (some (w.heap.size + 1 + 1)) d (fun j => if j < k then outAt x y j else [])) ∧ Hid (Below w.heap.size w wr))
  case atStart =>
    obtain ⟨q0, q1, q2, q3, q4⟩ := new_four w a0 a1 a2 a3 a4 a5 b0 b1 b2 b3 b4 b5 62
    exact ⟨0, 0, 0, none, _, rfl, rfl, by omega, by omega, q0, q1, q2, q3, SlB.nil _ _ _, (DgB.start _ _ _).congr fun j _ => by rw [if_neg (by omega)], q4⟩
  case round =>
    obtain ⟨k, m, c, p, d, rfl, rfl, hk, hg, H0, H1, H2, H3, HC, HD, HBw⟩ := hrel
    have hB : w.heap.size ≤ wr.heap.size := HBw.out.size
    have hl3 : w.heap.size + 1 + 1 + 1 < wr.heap.size := H3.out.lt
    have hl0 : w.heap.size < wr.heap.size := by omega
    have hl1 : w.heap.size + 1 < wr.heap.size := by omega
    by_cases hlt : k < 6
    · have hlz : (k : Int) < 6 := by omega
      obtain ⟨⟨pa, na, ca⟩, ea, sa⟩ := HA.out.2 k hlt
      obtain ⟨⟨pb, nb, cb⟩, eb, sb⟩ := HB.out.2 k hlt
      obtain ⟨sd, ed, _⟩ := HD.out.2 k hlt
      obtain ⟨t0, _⟩ := H0.out.row ea
      obtain ⟨t1, _⟩ := H1.out.row eb
      obtain ⟨k0, k1⟩ := H3.out.row ed
      simp only at t0 t1
      have HSA : Hid (SlB (· = w.heap.size + 1 + 1 + 1) wr (some (w.heap.size + 1 + 1)) (.slice pa na ca) (x k)) := SlB.old sa HBw.out (fun g e => by have := Option.some.inj e; omega) (fun g e => by have e' : g = w.heap.size + 1 + 1 + 1 := e; omega)
      have HSB : Hid (SlB (· = w.heap.size + 1 + 1 + 1) wr (some (w.heap.size + 1 + 1)) (.slice pb nb cb) (y k)) := SlB.old sb HBw.out (fun g e => by have := Option.some.inj e; omega) (fun g e => by have e' : g = w.heap.size + 1 + 1 + 1 := e; omega)
      have CA : Hid (∀ W, Below wr.heap.size wr W → RdE ES W wr.heap.size 0 [(p, m, c), (pa, na, ca), (pb, nb, cb)] → Calls Tryd.prog 47 #[.slice (some ⟨wr.heap.size, 0, none⟩) 3 3] W fun e w' => ∃ u v, e = .returned (.tuple #[u, v]) ∧ SlB (· = w.heap.size + 1 + 1 + 1) w' (some (w.heap.size + 1 + 1)) u (outAt x y k) ∧ SlB (· = w.heap.size + 1 + 1 + 1) w' (some (w.heap.size + 1 + 1)) v (carTo x y (k + 1) 0 []) ∧ Below W.heap.size W w') := by
        show ∀ W, _
        intro W hb hr
        have := added_some (· = w.heap.size + 1 + 1 + 1) (some (w.heap.size + 1 + 1)) wr.heap.size (p, m, c) (pa, na, ca) (pb, nb, cb) (carTo x y k 0 []) (x k) (y k) W hr (HC.out.below hb) (HSA.out.below hb) (HSB.out.below hb) ⟨HZ.out k hk, HX.out k hlt, HY.out k hlt⟩ (fun g e => by have e' : g = w.heap.size + 1 + 1 + 1 := e; have := hb.size; omega) (fun g e => by have := Option.some.inj e; have := hb.size; omega)
        rw [carTo_next] at this
        exact this
      clear ea eb ed sa sb HSA HSB
      go_wp2_with fail
      go_region_held3 (fun w' => w'.cell? ⟨w.heap.size, k, none⟩ = some (.slice pa na ca) ∧ w'.cell? ⟨w.heap.size + 1, k, none⟩ = some (.slice pb nb cb)) (first | go_keep | (exact ⟨j0, j1⟩) | (exact ⟨(World.cell?_setCell_other _ _ _ _ (by simp)).trans j0, (World.cell?_setCell_other _ _ _ _ (by simp)).trans j1⟩)) (first | (go_at_call 47; refine (CA.out _ (below_drewN ((Below.refl _ _).alloc (Nat.le_refl _) _) 1) ((new_three wr (p, m, c) (pa, na, ca) (pb, nb, cb) _ _ rfl).block (Nat.le_refl _) rfl)).mono ?_; rintro e w2 ⟨u, v, rfl, hu, hv, hb2'⟩; have hb1 : Below wr.heap.size wr (wr.alloc (.cells #[.slice p m c, .slice pa na ca, .slice pb nb cb] 35)).drew := below_drewN ((Below.refl _ _).alloc (Nat.le_refl _) _) 1; have hb2 : Below wr.heap.size wr w2 := hb1.trans (hb2'.mono hb1.size); have j0 := (hb2.cell (p := ⟨w.heap.size, k, none⟩) hl0).trans t0; have j1 := (hb2.cell (p := ⟨w.heap.size + 1, k, none⟩) hl1).trans t1; have l0 := (hb2.cell (p := ⟨w.heap.size + 1 + 1 + 1, k, none⟩) hl3).trans k0; have l1 := (World.frozen?_of_block (a := ⟨w.heap.size + 1 + 1 + 1, k, none⟩) (hb2.block _ hl3)).trans k1; have hl4 : w.heap.size + 1 + 1 + 1 < w2.heap.size := Nat.lt_of_lt_of_le hl3 hb2.size; obtain ⟨pu, cu, eu, _⟩ := id hu; obtain ⟨pv, cv, ev, _⟩ := id hv; subst eu; subst ev; obtain ⟨nu, hnu⟩ : ∃ n, (outAt x y k).length = n := ⟨_, rfl⟩; obtain ⟨nv, hnv⟩ : ∃ n, (carTo x y (k + 1) 0 []).length = n := ⟨_, rfl⟩; rw [hnu] at hu ⊢; rw [hnv] at hv ⊢; have HU : Hid (SlB (· = w.heap.size + 1 + 1 + 1) w2 (some (w.heap.size + 1 + 1)) (.slice pu nu cu) (outAt x y k)) := hu; have HV : Hid (SlB (· = w.heap.size + 1 + 1 + 1) w2 (some (w.heap.size + 1 + 1)) (.slice pv nv cv) (carTo x y (k + 1) 0 [])) := hv; clear hu hv hnu hnv hb2' hb1))
      all_goals
        have hgs : w2.grownBy (w2.setCell ⟨w.heap.size + 1 + 1 + 1, k, none⟩ (.slice pu nu cu)) (some (w.heap.size + 1 + 1 + 1)) := gb_setCell w2 ⟨w.heap.size + 1 + 1 + 1, k, none⟩ (.slice pu nu cu)
        have HBw2 : Hid (Below w.heap.size w w2) := HBw.out.trans (hb2.mono hB)
        go_wp2
        go_roundg (6 - (k + 1))
        case measure => omega
        case rel =>
          refine ⟨k + 1, nv, cv, pv, d.set k (pu, nu, cu), rfl, by go_num, by omega, Nat.le_refl _, ?_, ?_, ?_, ?_, HV.out.apart rfl hgs, ?_, ?_⟩
          · exact (H0.out.below hb2 H0.out.lt).kept hgs (fun e => by have := Option.some.inj e; omega)
          · exact (H1.out.below hb2 H1.out.lt).kept hgs (fun e => by have := Option.some.inj e; omega)
          · exact (H2.out.below hb2 H2.out.lt).kept hgs (fun e => by have := Option.some.inj e; omega)
          · exact (H3.out.below hb2 H3.out.lt).setRow (i := k) (by rw [HD.out.1]; exact hlt) (pu, nu, cu)
          · refine (((HD.out.below hb2).apart rfl hgs).set (r := k) (s := (pu, nu, cu)) (HU.out.apart rfl hgs)).congr fun j _ => ?_
            by_cases q : j = k
            · subst q; rw [if_pos rfl, if_pos (Nat.lt_succ_self _)]
            · rw [if_neg q]
              by_cases z : j < k
              · rw [if_pos z, if_pos (by omega)]
              · rw [if_neg z, if_neg (by omega)]
          · exact below_gb HBw2.out hgs (by omega) HBw2.out.size
    · obtain rfl : k = 6 := by omega
      have HDE : Hid (DgB (· = w.heap.size + 1 + 1 + 1) wr (some (w.heap.size + 1 + 1)) d (outAt x y)) := HD.out.congr fun j hj => by rw [if_pos hj]
      obtain ⟨s0, s1, s2, s3, s4, s5, rfl⟩ := six HD.out.1
      obtain ⟨⟨c0, c1, c2, c3, c4, c5⟩, _⟩ := H3.out.six
      obtain ⟨⟨d0, d1, d2, d3, d4, d5⟩, ⟨f0, f1, f2, f3, f4, f5⟩⟩ := H2.out.six
      have hl2 : w.heap.size + 1 + 1 < wr.heap.size := H2.out.lt
      clear HD HC H0 H1
      go_wp2
      refine bodyPost_ret (by simp [results, Tryd.results37, go_sem, d0, d1, d2, d3, d4, d5]; try rfl) rfl ?_
      exact ⟨_, rfl, (HDE.out.apartB (gb_six (World.grownBy.refl _ _) _ _ _ _ _ _)).at, below_six HBw.out (by omega) _ _ _ _ _ _⟩
theorem melded_any (da db : List SlV) (x y : Nat → List (Int × Int)) (w : World) (ha : DgAt w da x) (hb : DgAt w db y) (hx : ∀ j, j < 6 → (x j).length ≤ 1000) (hy : ∀ j, j < 6 → (y j).length ≤ 1000) (hz : ∀ j, j ≤ 6 → (carTo x y j 0 []).length ≤ 1000) :
    Calls Tryd.prog 37 #[agV da, agV db] w fun e w' => ∃ d, e = .returned (agV d) ∧ DgAt w' d (outAt x y) ∧ Below w.heap.size w w' := by
  obtain ⟨a0, a1, a2, a3, a4, a5, rfl⟩ := six ha.1
  obtain ⟨b0, b1, b2, b3, b4, b5, rfl⟩ := six hb.1
  exact melded_some a0 a1 a2 a3 a4 a5 b0 b1 b2 b3 b4 b5 x y w ha hb hx hy hz
#print axioms melded_any
end Go.Proofs.YtmkjalpgeljnkaaDoor

/-
  make and copy at items: what lies there then, whatever the two lengths are.
-/
namespace Go.Proofs.YtmkjalpgeljnkaaDoor
open Go.RowKit Go.Sort Go.Proofs

theorem made_cell {w : World} {base N g : Nat} (h : w.ownsRow base 24 2 (.slice (some ⟨g, 0, none⟩) N N) N (madeCells (Value.agg #[.int .i64 0, .int .i64 0]).cells (N * 2)).toList) (j : Nat) (hj : j < N * 2) : w.cell? ⟨g, j, none⟩ = some (.int .i64 0) := by
  rw [World.ownsRow.cellAt h j hj]
  have e : (madeCells (Value.agg #[.int .i64 0, .int .i64 0]).cells (N * 2)).toList[j]? = some ((madeCells (Value.agg #[.int .i64 0, .int .i64 0]).cells (N * 2))[j]'(by rw [size_madeCells]; exact hj)) := by
    rw [Array.getElem?_toList, Array.getElem?_eq_getElem]
  rw [e]
  unfold madeCells
  rw [Array.getElem_map, Array.getElem_range]
  have hc : (Value.agg #[.int .i64 0, .int .i64 0]).cells = #[.int .i64 0, .int .i64 0] := by rfl
  rw [hc]
  rcases Nat.mod_two_eq_zero_or_one j with q | q <;> simp [q]

/-- make and copy: a row of one's own that holds the items, and noughts behind them. -/
theorem laidSl (w w1 w2 : World) (N S cap : Nat) (p : Option Addr) (xs d : Array (Int × Int)) (hb : Below w.heap.size w w1) (hs : Sl w (.slice p S cap) xs) (hS : xs.size = S)
    (hown : w2.ownsRow w.heap.size 24 2 (.slice (some ⟨w1.heap.size, 0, none⟩) N N) N (madeCells (Value.agg #[.int .i64 0, .int .i64 0]).cells (N * 2)).toList) (hgr : w1.grownBy w2 none)
    (hd : d.size = N) (hpre : ∀ i, i < S → i < N → d[i]! = xs[i]!) (hz : ∀ i, S ≤ i → i < N → d[i]! = (0, 0)) :
    ∃ w3, (Builtin.copy_ #[35, 35] 3 #[.slice (some ⟨w1.heap.size, 0, none⟩) N N, .slice p S cap]).run Tryd.prog w2 = .ok (.int .i64 (Nat.min S N : Nat)) w3 ∧
      WrAt w3 w1.heap.size 0 d ∧ Below w.heap.size w w3 := by
  obtain ⟨hg2, hce, hfr⟩ := owned_cells hown
  have hmd := made_cell hown
  have hb2 : Below w.heap.size w w2 := hb.grown hgr hb.size (fun k e => by cases e)
  by_cases h0 : Nat.min S N = 0
  · refine ⟨w2, ?_, ⟨⟨hg2, fun i hi => ?_⟩, fun j hj => by simpa using hfr j (by rw [← hd]; exact hj)⟩, hb2⟩
    · have := run_copyK_none (P := Tryd.prog) w2 35 35 3 24 2 (some ⟨w1.heap.size, 0, none⟩) p N N S cap Tryd.underlying35 size_item h0
      rw [h0]; simpa [goInt] using this
    · rw [hd] at hi
      have hS0 : S = 0 := by have h0' : min S N = 0 := h0; omega
      rw [hz i (by omega) hi]
      exact ⟨by simpa using hmd (i * 2) (by omega), by simpa using hmd (i * 2 + 1) (by omega)⟩
  · obtain ⟨p', cap', e, hc, hq | ⟨blk, off, rfl, hr⟩⟩ := hs
    · exfalso; rw [hS] at hq; subst hq; simp at h0
    · simp only [Value.slice.injEq] at e
      obtain ⟨rfl, rfl, rfl⟩ := e
      have hrd := hr.below hb2 hr.1
      obtain ⟨m, hm⟩ : ∃ m, Nat.min xs.size N = m := ⟨_, rfl⟩
      have hmS : m ≤ xs.size := by rw [← hm]; exact Nat.min_le_left _ _
      have hmN : m ≤ N := by rw [← hm]; exact Nat.min_le_right _ _
      have hmx : m = xs.size ∨ m = N := by have hm' : min xs.size N = m := hm; omega
      have hy : (xs.extract 0 m).size = m := by simp; omega
      have hyg : ∀ i, i < m → (xs.extract 0 m)[i]! = xs[i]! := fun i hi => by
        rw [getElem!_pos _ i (by rw [hy]; exact hi), getElem!_pos xs i (by omega)]; simp
      have hrd' : RdAt w2 blk off (xs.extract 0 m) := ⟨hrd.1, fun i hi => by rw [hy] at hi; rw [hyg i hi]; exact hrd.2 i (by omega)⟩
      have hlen : (flatK encI 2 (xs.extract 0 m)).toList.length = m * 2 := by simp; omega
      rw [hm]
      refine ⟨w2.setCells w1.heap.size 0 (flatK encI 2 (xs.extract 0 m)).toList, ?_, ⟨⟨by rw [size_setCells]; exact hg2, fun i hi => ?_⟩, fun j hj => ?_⟩, below_setCells hb.size _ _ _ hb2⟩
      · have := run_copyK (P := Tryd.prog) w2 35 35 3 24 2 w1.heap.size 0 N N ⟨blk, off, none⟩ xs.size cap (flatK encI 2 (xs.extract 0 m)).toList Tryd.underlying35 size_item (by rw [hlen, hm])
          (fun j v hv => by
            obtain ⟨hj, rfl⟩ := List.getElem?_eq_some_iff.1 hv
            rw [hlen] at hj
            have hj' : j < (xs.extract 0 m).size * 2 := by rw [hy]; exact hj
            rw [show ((⟨blk, off, none⟩ : Addr).add j) = ⟨blk, off + j, none⟩ by unfold Addr.add; split <;> simp_all, hrd'.flat j hj', Array.getElem_toList, getElem!_pos _ j (by simpa using hj')])
          (fun j hj => by rw [hlen] at hj; simpa using hce j (by omega)) (fun j hj => by rw [hlen] at hj; simpa using hfr j (by omega)) (flatI_one _)
        rw [hm] at this
        simpa [goInt] using this
      · rw [hd] at hi
        by_cases him : i < m
        · have key : ∀ t, t < m * 2 → (w2.setCells w1.heap.size 0 (flatK encI 2 (xs.extract 0 m)).toList).cell? ⟨w1.heap.size, t, none⟩ = some (flatK encI 2 (xs.extract 0 m))[t]! := fun t ht => by
            have := World.cell?_setCells_in w1.heap.size (flatK encI 2 (xs.extract 0 m)).toList 0 w2 (fun j hj => by rw [hlen] at hj; simpa using hce j (by omega)) t (by rw [hlen]; exact ht)
            rw [Nat.zero_add] at this
            rw [this, Array.getElem_toList, getElem!_pos _ t (by simpa [hy] using ht)]
          have f0 := flatI_get (xs.extract 0 m) (i * 2) (by rw [hy]; omega)
          have f1 := flatI_get (xs.extract 0 m) (i * 2 + 1) (by rw [hy]; omega)
          rw [if_pos (by omega), show i * 2 / 2 = i by omega, hyg i him] at f0
          rw [if_neg (by omega), show (i * 2 + 1) / 2 = i by omega, hyg i him] at f1
          rw [hpre i (by omega) hi, Nat.zero_add]
          exact ⟨by rw [key (i * 2) (by omega), f0], by rw [key (i * 2 + 1) (by omega), f1]⟩
        · have hout : ∀ t, m * 2 ≤ t → (w2.setCells w1.heap.size 0 (flatK encI 2 (xs.extract 0 m)).toList).cell? ⟨w1.heap.size, t, none⟩ = w2.cell? ⟨w1.heap.size, t, none⟩ := fun t ht =>
            World.cell?_setCells_out w1.heap.size _ 0 w2 ⟨w1.heap.size, t, none⟩ fun _ _ => Or.inr (by rw [hlen]; simpa using ht)
          rw [hz i (by omega) hi, Nat.zero_add, hout _ (by omega), hout _ (by omega)]
          exact ⟨hmd (i * 2) (by omega), hmd (i * 2 + 1) (by omega)⟩
      · rw [World.frozen?_setCells, Nat.zero_add]
        exact hfr j (by rw [← hd]; exact hj)
end Go.Proofs.YtmkjalpgeljnkaaDoor

/-
  bino.written: a heap in memory of its own.
-/
namespace Go.Proofs.YtmkjalpgeljnkaaDoor
open Go.RowKit Go.Sort Go.Proofs

/-- The heap of what stands at the first n ranks. -/
def putTo (f : Nat → List (Int × Int)) : Nat → List TrL
  | 0 => []
  | n + 1 => putTo f n ++ putR n (f n)
theorem meldTo_put (x y : Nat → List (Int × Int)) : ∀ n, meldTo x y n 0 [] = putTo (outAt x y) n
  | 0 => rfl
  | n + 1 => by rw [meldTo_snoc, meldTo_put x y n]; rfl
theorem putTo_no {f : Nat → List (Int × Int)} {n : Nat} (h : f n = []) : putTo f (n + 1) = putTo f n := by
  show putTo f n ++ putR n (f n) = _
  rw [h]; simp [putR]
theorem putTo_yes {f : Nat → List (Int × Int)} {n : Nat} (h : f n ≠ []) : putTo f (n + 1) = putTo f n ++ [(n, f n)] := by
  show putTo f n ++ putR n (f n) = _
  unfold putR; rw [if_neg h]
/-- .. apart from every block below b. -/
def OutF (b : Nat) (w : World) (B : Option Nat) (os : List (Int × SlV)) (h : List TrL) : Prop := ∀ F : Nat → Prop, (∀ g, F g → g < b) → OutAt F w B os h
/-- The slice value u is a heap of one's own, from block b on, with all its items. -/
def NewH (b : Nat) (w : World) (u : Value) (h : List TrL) : Prop := ∃ os, OwnE ET w b u os ∧ OutF b w u.ownBlock os h
theorem NewH.heap {b : Nat} {w : World} {u : Value} {h : List TrL} (H : NewH b w u h) : HpAt w u (zH h) := by
  obtain ⟨os, h1, h2⟩ := H
  exact (h2 (fun _ => False) (fun g e => e.elim)).heap h1
theorem NewH.weak {b b' : Nat} {w : World} {u : Value} {h : List TrL} (H : NewH b w u h) (hb : b' ≤ b) : NewH b' w u h := by
  obtain ⟨os, h1, h2⟩ := H
  exact ⟨os, h1.weak hb, fun F hF => h2 F fun g e => Nat.lt_of_lt_of_le (hF g e) hb⟩
theorem NewH.below {b : Nat} {w w' : World} {u : Value} {h : List TrL} (H : NewH b w u h) (hb : Below w.heap.size w w') : NewH b w' u h := by
  obtain ⟨os, h1, h2⟩ := H
  exact ⟨os, h1.below hb, fun F hF => (h2 F hF).below hb⟩
/-- A block below b may be written. -/
theorem NewH.kept {b : Nat} {w w' : World} {u : Value} {h : List TrL} {row : Option Nat} (H : NewH b w u h) (hg : w.grownBy w' row) (hr : ∀ f, row = some f → f < b) : NewH b w' u h := by
  obtain ⟨os, h1, h2⟩ := H
  refine ⟨os, ?_, fun F hF => ?_⟩
  · refine World.ownsRow.kept h1 hg ?_
    cases hv : u.ownBlock with
    | none => exact Or.inl rfl
    | some g => exact Or.inr fun e => by have h3 := (World.ownsRow.lt h1 g hv).1; have h4 := hr g e.symm; omega
  · refine ⟨(h2 F hF).1, fun i r l e => ?_⟩
    obtain ⟨s, e1, p, c, e2, hc, q | ⟨blk, off, rfl, n1, n2, hrd⟩⟩ := (h2 F hF).2 i r l e
    · exact ⟨s, e1, p, c, e2, hc, Or.inl q⟩
    · obtain ⟨s', e1', p', c', e2', hc', q' | ⟨blk', off', rfl, _, n2', _⟩⟩ := (h2 (fun g => row = some g) hr).2 i r l e
      · exact ⟨s, e1, _, c, e2, hc, Or.inl q'⟩
      · refine ⟨s, e1, _, c, e2, hc, Or.inr ⟨blk, off, rfl, n1, n2, hrd.keptB hg ?_⟩⟩
        rw [e1] at e1'
        simp only [Option.some.injEq, Prod.mk.injEq, true_and] at e1'
        subst e1'
        rw [e2] at e2'
        simp only [Value.slice.injEq, Option.some.injEq, Addr.mk.injEq] at e2'
        rw [e2'.1.1]
        exact fun q => n2' q.symm

set_option maxHeartbeats 16000000 in
set_option maxRecDepth 4000 in
theorem written_some (s0 s1 s2 s3 s4 s5 : SlV) (f : Nat → List (Int × Int)) (w : World) (HA : Hid (DgAt w [s0, s1, s2, s3, s4, s5] f)) (HX : Hid (∀ j, j < 6 → (f j).length ≤ 1000)) :
    Calls Tryd.prog 36 #[.agg #[.slice s0.1 s0.2.1 s0.2.2, .slice s1.1 s1.2.1 s1.2.2, .slice s2.1 s2.2.1 s2.2.2, .slice s3.1 s3.2.1 s3.2.2, .slice s4.1 s4.2.1 s4.2.2, .slice s5.1 s5.2.1 s5.2.2]] w fun e w' => ∃ u, e = .returned u ∧ NewH w.heap.size w' u (putTo f 6) ∧ Below w.heap.size w w' := by
  obtain ⟨i0, hi, hz0, hz1, hz2⟩ := info_parts info_item
  go_enter Tryd.func36, Tryd.ntmps36
  go_wp2
  go_loopg [3, 9] 6 (fun gg v3 v9 wr => ∃ (k no co : Nat) (po : Option Addr) (os : List (Int × SlV)), v3 = .slice po no co ∧ v9 = .int .i64 k ∧ k ≤ 6 ∧ 6 - k ≤ gg ∧ no ≤ k ∧ Hid (os.length = no) ∧ Hid (OwnE ET wr w.heap.size (.slice po no co) os) ∧ Hid (OutF w.heap.size wr (Value.slice po no co).ownBlock os (putTo f k)) ∧ Hid (Below w.heap.size w wr))
  case atStart =>
    refine ⟨0, 0, 0, _, [], rfl, rfl, by omega, by omega, by omega, rfl, (show OwnE _ _ _ _ _ from ?_), (fun F _ => OutAt.nil _ _ _), ((Below.refl _ _).alloc (Nat.le_refl _) _).alloc (by simp) _⟩
    have h := OwnE.lit ET (w.alloc (.cells #[.slice s0.1 s0.2.1 s0.2.2, .slice s1.1 s1.2.1 s1.2.2, .slice s2.1 s2.2.1 s2.2.2, .slice s3.1 s3.2.1 s3.2.2, .slice s4.1 s4.2.1 s4.2.2, .slice s5.1 s5.2.1 s5.2.2] 62))
    rw [show (w.alloc (.cells #[.slice s0.1 s0.2.1 s0.2.2, .slice s1.1 s1.2.1 s1.2.2, .slice s2.1 s2.2.1 s2.2.2, .slice s3.1 s3.2.1 s3.2.2, .slice s4.1 s4.2.1 s4.2.2, .slice s5.1 s5.2.1 s5.2.2] 62)).heap.size = w.heap.size + 1 by simp] at h
    exact h.weak (by omega)
  case round =>
    obtain ⟨k, no, co, po, os, rfl, rfl, hk, hg, hno, HN, HO, HOUT, HB⟩ := hrel
    have hB : w.heap.size ≤ wr.heap.size := HB.out.size
    by_cases hlt : k < 6
    · have hlz : (k : Int) < 6 := by omega
      obtain ⟨⟨p, n, c⟩, es, hs⟩ := HA.out.2 k hlt
      have jx := ixk s0 s1 s2 s3 s4 s5 k (p, n, c) es
      simp only at jx
      have hcn : n = (f k).length := hs.count
      have hn1 : n ≤ 1000 := by have := HX.out k hlt; omega
      have HL : Hid ((f k).length = n) := hcn.symm
      clear hcn
      have HS : Hid (Sl wr (.slice p n c) (f k).toArray) := hs.below HB.out
      clear es hs
      rcases Nat.eq_zero_or_pos n with rfl | hn
      · have HE : Hid (putTo f (k + 1) = putTo f k) := putTo_no (List.eq_nil_of_length_eq_zero HL.out)
        go_wp2
        go_roundg (6 - (k + 1))
        case measure => omega
        case rel => exact ⟨k + 1, no, co, po, os, rfl, by go_num, by omega, Nat.le_refl _, by omega, HN, HO, by show OutF _ _ _ _ _; rw [HE.out]; exact HOUT.out, HB⟩
      · have hnz : (0 : Int) < (n : Int) := by omega
        have HE : Hid (putTo f (k + 1) = putTo f k ++ [(k, f k)]) := putTo_yes (fun e => by have := HL.out; rw [e] at this; simp at this; omega)
        go_wp2_with (first | (at_make; refine wpList_make_full _ rfl (.tmp 17) (.tmp 17) 35 rfl wr.heap.size 24 i0 (.agg #[.int .i64 0, .int .i64 0]) 2 Tryd.underlying35 hi hz0 hz1 .i64 .i64 _ _ n rfl rfl rfl rfl (by rw [hz2]; omega) (by unfold maxLen; omega) (Nat.le_refl _) ?_; intro w2 hown hgr; obtain ⟨w3, hrun, HW3, hb3⟩ := laidSl wr wr w2 n n c p (f k).toArray (f k).toArray (Below.refl _ _) HS.out (by rw [List.size_toArray]; exact HL.out) hown hgr (by rw [List.size_toArray]; exact HL.out) (fun _ _ _ => rfl) (fun i a b => by omega); clear hown hgr) | (at_builtin; refine wpList_appendE ET rfl (.tmp 22) (.tmp 26) rfl w.heap.size _ _ ((k : Int), (some ⟨wr.heap.size, 0, none⟩, n, n)) ⟨w3.heap.size, 0, none⟩ 1 rfl ((HO.out.below hb3).alloc _) rfl (new_tree w3 _ rfl _ _ _ _) (by rw [HN.out]; omega) (by have := hb3.size; simp; omega) ?_; intro v4 w4 hA4 hg4 hbk))
        have hb4 : Below w.heap.size w w4 := ((HB.out.trans (hb3.mono hB)).alloc (Nat.le_trans hB hb3.size) _).trans (below_ownE ((HO.out.below hb3).alloc _) hg4 (Nat.le_refl _) (by have := hb3.size; simp; omega))
        have hSB : ∀ F : Nat → Prop, (∀ g, F g → g < w.heap.size) → SlB F w3 (Value.slice po no co).ownBlock (.slice (some ⟨wr.heap.size, 0, none⟩) n n) (f k) := by
          intro F hF
          refine ⟨_, n, by rw [HL.out], by rw [HL.out]; exact Nat.le_refl _, Or.inr ⟨wr.heap.size, 0, rfl, fun e => ?_, fun e => ?_, HW3.rd⟩⟩
          · have := (World.ownsRow.lt HO.out _ e.symm).2
            omega
          · have := hF _ e
            omega
        have hba : Below w3.heap.size w3 (w3.alloc (.cells #[.int .i64 (k : Int), .slice (some ⟨wr.heap.size, 0, none⟩) n n] 37)) := (Below.refl _ _).alloc (Nat.le_refl _) _
        have HOUT' : Hid (OutF w.heap.size w4 v4.ownBlock (os ++ [((k : Int), (some ⟨wr.heap.size, 0, none⟩, n, n))]) (putTo f (k + 1))) := by
          show OutF _ _ _ _ _
          rw [HE.out]
          exact fun F hF => ((((HOUT.out F hF).below hb3).below hba).kept hg4 hbk).snoc (((hSB F hF).below hba).kept hg4 hbk)
        obtain ⟨p4, c4, hv4⟩ := hA4.form
        have hlen : (os ++ [((k : Int), ((some ⟨wr.heap.size, 0, none⟩, n, n) : SlV))]).length = no + 1 := by rw [List.length_append, HN.out]; rfl
        rw [hlen] at hv4
        subst hv4
        go_roundg (6 - (k + 1))
        case measure => omega
        case rel => exact ⟨k + 1, no + 1, c4, p4, _, rfl, by go_num, by omega, Nat.le_refl _, by omega, hlen, hA4, HOUT', hb4⟩
    · obtain rfl : k = 6 := by omega
      go_wp2
      go_ret
      exact ⟨_, rfl, ⟨os, HO.out, HOUT.out⟩, HB.out⟩
theorem written_any (d : List SlV) (f : Nat → List (Int × Int)) (w : World) (h : DgAt w d f) (hx : ∀ j, j < 6 → (f j).length ≤ 1000) :
    Calls Tryd.prog 36 #[agV d] w fun e w' => ∃ u, e = .returned u ∧ NewH w.heap.size w' u (putTo f 6) ∧ Below w.heap.size w w' := by
  obtain ⟨s0, s1, s2, s3, s4, s5, rfl⟩ := six h.1
  exact written_some s0 s1 s2 s3 s4 s5 f w h hx
#print axioms written_any
end Go.Proofs.YtmkjalpgeljnkaaDoor

/-
  bino.Meld and bino.Push.
-/
namespace Go.Proofs.YtmkjalpgeljnkaaDoor
open Go.RowKit Go.Sort Go.Proofs

theorem carTo_te {g1 g2 : List TrL} (h1 : IsH g1) (h2 : IsH g2) (j : Nat) : TE j (carTo (digitH g1) (digitH g2) j 0 []) := by
  have := (meldTo_spec (digitH g1) (digitH g2) (digitH_te h1) (digitH_te h2) j 0 [] (Or.inl rfl)).2.2.1
  rw [Nat.zero_add] at this
  exact this
theorem outAt_te {g1 g2 : List TrL} (h1 : IsH g1) (h2 : IsH g2) (j : Nat) : TE j (outAt (digitH g1) (digitH g2) j) := (pick_step (carTo_te h1 h2 j) (digitH_te h1 j) (digitH_te h2 j)).1
theorem dig_len {g : List TrL} (h : IsH g) (j : Nat) (hj : j < 6) : (digitH g j).length ≤ 1000 := by
  have := (digitH_te h j).len (by omega); omega
theorem car_len {g1 g2 : List TrL} (h1 : IsH g1) (h2 : IsH g2) (j : Nat) (hj : j ≤ 6) : (carTo (digitH g1) (digitH g2) j 0 []).length ≤ 1000 := by
  have := (carTo_te h1 h2 j).len (by omega); omega
theorem out_len {g1 g2 : List TrL} (h1 : IsH g1) (h2 : IsH g2) (j : Nat) (hj : j < 6) : (outAt (digitH g1) (digitH g2) j).length ≤ 1000 := by
  have := (outAt_te h1 h2 j).len (by omega); omega
theorem OkH.cat {g : List TrL} (h : OkH g) : catTo (digitH g) 6 0 = itemsH g := catTo_digit 6 0 g h.isH.rise fun t ht => ⟨Nat.zero_le _, by have := h.rank t ht; omega⟩
theorem OkH.high {g : List TrL} (h : OkH g) (j : Nat) (hj : 6 ≤ j) : digitH g j = [] := digitH_none fun t ht => by have := h.rank t ht; omega
/-- Six ranks are enough. -/
theorem meldH_six {g1 g2 : List TrL} (h1 : OkH g1) (h2 : OkH g2) (h : (itemsH g1).length + (itemsH g2).length ≤ 60) : meldH g1 g2 = putTo (outAt (digitH g1) (digitH g2)) 6 := by
  have hc : carTo (digitH g1) (digitH g2) 6 0 [] = [] := by
    obtain ⟨_, _, s3, s4⟩ := meldTo_spec (digitH g1) (digitH g2) (digitH_te h1.isH) (digitH_te h2.isH) 6 0 [] (Or.inl rfl)
    rcases s3 with e | s3
    · exact e
    · rw [h1.cat, h2.cat] at s4
      have e := s4.length_eq
      have l := s3.len
      simp only [List.length_append, List.nil_append] at e
      rw [l] at e
      simp at e
      omega
  unfold meldH
  rw [meldTo_add (digitH g1) (digitH g2) 6 2 0, hc, ← meldTo_put]
  have e : meldTo (digitH g1) (digitH g2) 2 (0 + 6) [] = [] := by
    simp only [meldTo]
    rw [h1.high (0 + 6) (by omega), h2.high (0 + 6) (by omega), h1.high (0 + 6 + 1) (by omega), h2.high (0 + 6 + 1) (by omega)]
    simp [pickL, optL, outD, carD, putR]
  rw [e, List.append_nil]

set_option maxHeartbeats 4000000 in
theorem dMeld_A (p1 p2 : Option Addr) (n1 c1 n2 c2 k : Nat) (w : World)
    (C1 : Hid (Calls Tryd.prog 9 #[.slice p1 n1 c1] w fun e w' => e = .returned (.iface 56 (.int .i64 k)) ∧ Below w.heap.size w w')) :
    Calls Tryd.prog 12 #[.slice p1 n1 c1, .slice p2 n2 c2] w fun e w' => e = .returned (.tuple #[.slice none 0 0, .iface 56 (.int .i64 k)]) ∧ Below w.heap.size w w' := by
  go_enter Tryd.func12, Tryd.ntmps12
  go_wp2_with fail
  refine C1.out.mono ?_
  rintro e w1 ⟨rfl, hb⟩
  go_wp2
  go_ret2
  exact ⟨rfl, hb⟩
set_option maxHeartbeats 4000000 in
theorem dMeld_B (p1 p2 : Option Addr) (n1 c1 n2 c2 k : Nat) (w : World)
    (C1 : Hid (Calls Tryd.prog 9 #[.slice p1 n1 c1] w fun e w' => e = .returned .nilIface ∧ Below w.heap.size w w'))
    (C2 : Hid (∀ w1, Below w.heap.size w w1 → Calls Tryd.prog 9 #[.slice p2 n2 c2] w1 fun e w' => e = .returned (.iface 56 (.int .i64 k)) ∧ Below w1.heap.size w1 w')) :
    Calls Tryd.prog 12 #[.slice p1 n1 c1, .slice p2 n2 c2] w fun e w' => e = .returned (.tuple #[.slice none 0 0, .iface 56 (.int .i64 k)]) ∧ Below w.heap.size w w' := by
  go_enter Tryd.func12, Tryd.ntmps12
  go_wp2_with fail
  refine C1.out.mono ?_
  rintro e w1 ⟨rfl, hb⟩
  go_wp2_with fail
  refine (C2.out w1 hb).mono ?_
  rintro e w2 ⟨rfl, hb2⟩
  go_wp2
  go_ret2
  exact ⟨rfl, hb.trans (hb2.mono hb.size)⟩
set_option maxHeartbeats 32000000 in
set_option maxRecDepth 8000 in
theorem dMeld_C (p1 p2 : Option Addr) (n1 c1 n2 c2 m1 m2 : Nat) (g1 g2 : List TrL) (w : World) (h1 : m1 ≤ 60) (h2 : m2 ≤ 60) (h3 : 60 < m1 + m2) (HM1 : Hid ((itemsH g1).length = m1)) (HM2 : Hid ((itemsH g2).length = m2)) (HG1 : Hid (OkH g1)) (HG2 : Hid (OkH g2)) (HA : Hid (HpAt w (.slice p1 n1 c1) (zH g1))) (HB : Hid (HpAt w (.slice p2 n2 c2) (zH g2)))
    (C1 : Hid (Calls Tryd.prog 9 #[.slice p1 n1 c1] w fun e w' => e = .returned .nilIface ∧ Below w.heap.size w w'))
    (C2 : Hid (∀ w1, Below w.heap.size w w1 → Calls Tryd.prog 9 #[.slice p2 n2 c2] w1 fun e w' => e = .returned .nilIface ∧ Below w1.heap.size w1 w')) :
    Calls Tryd.prog 12 #[.slice p1 n1 c1, .slice p2 n2 c2] w fun e w' => e = .returned (.tuple #[.slice none 0 0, .iface 56 (.int .i64 4)]) ∧ Below w.heap.size w w' := by
  have hw : IntKind.i64.wrap ((m1 : Int) + (m2 : Int)) = (m1 : Int) + (m2 : Int) := by rw [IntKind.wrap_i64]; omega
  have hz : (60 : Int) < (m1 : Int) + (m2 : Int) := by omega
  go_enter Tryd.func12, Tryd.ntmps12
  go_wp2_with fail
  refine C1.out.mono ?_
  rintro e w1 ⟨rfl, hb1⟩
  go_wp2_with fail
  refine (C2.out w1 hb1).mono ?_
  rintro e w2 ⟨rfl, hb2'⟩
  have hb2 := hb1.trans (hb2'.mono hb1.size)
  clear hb2' hb1
  have cR1 := read_any _ g1 w2 (HA.out.below hb2) HG1.out
  go_wp2_with fail
  refine cR1.mono ?_
  rintro e w3 ⟨d1, he, hd1, hb3'⟩
  obtain ⟨a0, a1, a2, a3, a4, a5, rfl⟩ := six hd1.1
  have he' : e = .returned (.agg #[.slice a0.1 a0.2.1 a0.2.2, .slice a1.1 a1.2.1 a1.2.2, .slice a2.1 a2.2.1 a2.2.2, .slice a3.1 a3.2.1 a3.2.2, .slice a4.1 a4.2.1 a4.2.2, .slice a5.1 a5.2.1 a5.2.2]) := he
  subst he'
  have hb3 := hb2.trans (hb3'.mono hb2.size)
  have HD1 : Hid (DgAt w3 [a0, a1, a2, a3, a4, a5] (digitH g1)) := hd1.below hb3'
  clear he hd1 hb3' cR1 hb2
  have cR2 := read_any _ g2 w3 (HB.out.below hb3) HG2.out
  go_wp2_with fail
  refine cR2.mono ?_
  rintro e w4 ⟨d2, he, hd2, hb4'⟩
  obtain ⟨b0, b1, b2, b3, b4, b5, rfl⟩ := six hd2.1
  have he' : e = .returned (.agg #[.slice b0.1 b0.2.1 b0.2.2, .slice b1.1 b1.2.1 b1.2.2, .slice b2.1 b2.2.1 b2.2.2, .slice b3.1 b3.2.1 b3.2.2, .slice b4.1 b4.2.1 b4.2.2, .slice b5.1 b5.2.1 b5.2.2]) := he
  subst he'
  have hb4 := hb3.trans (hb4'.mono hb3.size)
  have HD1b : Hid (DgAt w4 [a0, a1, a2, a3, a4, a5] (digitH g1)) := HD1.out.below hb4'
  have HD2b : Hid (DgAt w4 [b0, b1, b2, b3, b4, b5] (digitH g2)) := hd2.below hb4'
  clear he hd2 hb4' cR2 hb3 HD1
  have HW5 : Hid (Below w4.heap.size w4 ((w4.alloc (.cells #[.slice a0.1 a0.2.1 a0.2.2, .slice a1.1 a1.2.1 a1.2.2, .slice a2.1 a2.2.1 a2.2.2, .slice a3.1 a3.2.1 a3.2.2, .slice a4.1 a4.2.1 a4.2.2, .slice a5.1 a5.2.1 a5.2.2] 62)).alloc (.cells #[.slice b0.1 b0.2.1 b0.2.2, .slice b1.1 b1.2.1 b1.2.2, .slice b2.1 b2.2.1 b2.2.2, .slice b3.1 b3.2.1 b3.2.2, .slice b4.1 b4.2.1 b4.2.2, .slice b5.1 b5.2.1 b5.2.2] 62))) := ((Below.refl _ _).alloc (Nat.le_refl _) _).alloc (by simp) _
  have HSA : Hid (WrE ES ((w4.alloc (.cells #[.slice a0.1 a0.2.1 a0.2.2, .slice a1.1 a1.2.1 a1.2.2, .slice a2.1 a2.2.1 a2.2.2, .slice a3.1 a3.2.1 a3.2.2, .slice a4.1 a4.2.1 a4.2.2, .slice a5.1 a5.2.1 a5.2.2] 62)).alloc (.cells #[.slice b0.1 b0.2.1 b0.2.2, .slice b1.1 b1.2.1 b1.2.2, .slice b2.1 b2.2.1 b2.2.2, .slice b3.1 b3.2.1 b3.2.2, .slice b4.1 b4.2.1 b4.2.2, .slice b5.1 b5.2.1 b5.2.2] 62)) w4.heap.size 0 [a0, a1, a2, a3, a4, a5]) := (new_six w4 a0 a1 a2 a3 a4 a5 _).alloc' _
  have HSB : Hid (WrE ES ((w4.alloc (.cells #[.slice a0.1 a0.2.1 a0.2.2, .slice a1.1 a1.2.1 a1.2.2, .slice a2.1 a2.2.1 a2.2.2, .slice a3.1 a3.2.1 a3.2.2, .slice a4.1 a4.2.1 a4.2.2, .slice a5.1 a5.2.1 a5.2.2] 62)).alloc (.cells #[.slice b0.1 b0.2.1 b0.2.2, .slice b1.1 b1.2.1 b1.2.2, .slice b2.1 b2.2.1 b2.2.2, .slice b3.1 b3.2.1 b3.2.2, .slice b4.1 b4.2.1 b4.2.2, .slice b5.1 b5.2.1 b5.2.2] 62)) (w4.heap.size + 1) 0 [b0, b1, b2, b3, b4, b5]) := by
    show WrE _ _ _ _ _
    have h := new_six (w4.alloc (.cells #[.slice a0.1 a0.2.1 a0.2.2, .slice a1.1 a1.2.1 a1.2.2, .slice a2.1 a2.2.1 a2.2.2, .slice a3.1 a3.2.1 a3.2.2, .slice a4.1 a4.2.1 a4.2.2, .slice a5.1 a5.2.1 a5.2.2] 62)) b0 b1 b2 b3 b4 b5 62
    rw [show (w4.alloc (.cells #[.slice a0.1 a0.2.1 a0.2.2, .slice a1.1 a1.2.1 a1.2.2, .slice a2.1 a2.2.1 a2.2.2, .slice a3.1 a3.2.1 a3.2.2, .slice a4.1 a4.2.1 a4.2.2, .slice a5.1 a5.2.1 a5.2.2] 62)).heap.size = w4.heap.size + 1 by simp] at h
    exact h
  go_wp2_with fail
  generalize ((w4.alloc (.cells #[.slice a0.1 a0.2.1 a0.2.2, .slice a1.1 a1.2.1 a1.2.2, .slice a2.1 a2.2.1 a2.2.2, .slice a3.1 a3.2.1 a3.2.2, .slice a4.1 a4.2.1 a4.2.2, .slice a5.1 a5.2.1 a5.2.2] 62)).alloc (.cells #[.slice b0.1 b0.2.1 b0.2.2, .slice b1.1 b1.2.1 b1.2.2, .slice b2.1 b2.2.1 b2.2.2, .slice b3.1 b3.2.1 b3.2.2, .slice b4.1 b4.2.1 b4.2.2, .slice b5.1 b5.2.1 b5.2.2] 62)) = w5 at HW5 HSA HSB ⊢
  have hga : w4.heap.size < w5.heap.size := HSA.out.lt
  have hgb : w4.heap.size + 1 < w5.heap.size := HSB.out.lt
  obtain ⟨⟨xa0, xa1, xa2, xa3, xa4, xa5⟩, _⟩ := HSA.out.six
  obtain ⟨⟨xb0, xb1, xb2, xb3, xb4, xb5⟩, _⟩ := HSB.out.six
  have HB5 : Hid (Below w.heap.size w w5) := hb4.trans (HW5.out.mono hb4.size)
  have HD1c : Hid (DgAt w5 [a0, a1, a2, a3, a4, a5] (digitH g1)) := HD1b.out.below HW5.out
  have HD2c : Hid (DgAt w5 [b0, b1, b2, b3, b4, b5] (digitH g2)) := HD2b.out.below HW5.out
  clear HSA HSB HW5 hb4 HD1b HD2b
  generalize w4.heap.size + 1 = gb at *
  generalize w4.heap.size = ga at *
  have CS1 : Hid (∀ W, Calls Tryd.prog 35 #[.agg #[.slice a0.1 a0.2.1 a0.2.2, .slice a1.1 a1.2.1 a1.2.2, .slice a2.1 a2.2.1 a2.2.2, .slice a3.1 a3.2.1 a3.2.2, .slice a4.1 a4.2.1 a4.2.2, .slice a5.1 a5.2.1 a5.2.2]] W fun e w' => e = .returned (.int .i64 (m1 : Int)) ∧ Below W.heap.size W w') := by
    show ∀ W, _
    intro W
    have := dsize_any _ _ w5 W HD1c.out (fun j hj => dig_len HG1.out.isH j hj)
    rw [HG1.out.cat, HM1.out] at this
    exact this
  have CS2 : Hid (∀ W, Calls Tryd.prog 35 #[.agg #[.slice b0.1 b0.2.1 b0.2.2, .slice b1.1 b1.2.1 b1.2.2, .slice b2.1 b2.2.1 b2.2.2, .slice b3.1 b3.2.1 b3.2.2, .slice b4.1 b4.2.1 b4.2.2, .slice b5.1 b5.2.1 b5.2.2]] W fun e w' => e = .returned (.int .i64 (m2 : Int)) ∧ Below W.heap.size W w') := by
    show ∀ W, _
    intro W
    have := dsize_any _ _ w5 W HD2c.out (fun j hj => dig_len HG2.out.isH j hj)
    rw [HG2.out.cat, HM2.out] at this
    exact this
  go_region_held3 (fun w' => w'.cell? ⟨ga, 0, none⟩ = some (.slice a0.1 a0.2.1 a0.2.2) ∧ w'.cell? ⟨ga, 1, none⟩ = some (.slice a1.1 a1.2.1 a1.2.2) ∧ w'.cell? ⟨ga, 2, none⟩ = some (.slice a2.1 a2.2.1 a2.2.2) ∧ w'.cell? ⟨ga, 3, none⟩ = some (.slice a3.1 a3.2.1 a3.2.2) ∧ w'.cell? ⟨ga, 4, none⟩ = some (.slice a4.1 a4.2.1 a4.2.2) ∧ w'.cell? ⟨ga, 5, none⟩ = some (.slice a5.1 a5.2.1 a5.2.2) ∧ w'.cell? ⟨gb, 0, none⟩ = some (.slice b0.1 b0.2.1 b0.2.2) ∧ w'.cell? ⟨gb, 1, none⟩ = some (.slice b1.1 b1.2.1 b1.2.2) ∧ w'.cell? ⟨gb, 2, none⟩ = some (.slice b2.1 b2.2.1 b2.2.2) ∧ w'.cell? ⟨gb, 3, none⟩ = some (.slice b3.1 b3.2.1 b3.2.2) ∧ w'.cell? ⟨gb, 4, none⟩ = some (.slice b4.1 b4.2.1 b4.2.2) ∧ w'.cell? ⟨gb, 5, none⟩ = some (.slice b5.1 b5.2.1 b5.2.2)) (first | go_keep | (exact ⟨ya0, ya1, ya2, ya3, ya4, ya5, yb0, yb1, yb2, yb3, yb4, yb5⟩) | (exact ⟨za0, za1, za2, za3, za4, za5, zb0, zb1, zb2, zb3, zb4, zb5⟩)) (first | (go_at_call_of 35 (Value.agg #[.slice a0.1 a0.2.1 a0.2.2, .slice a1.1 a1.2.1 a1.2.2, .slice a2.1 a2.2.1 a2.2.2, .slice a3.1 a3.2.1 a3.2.2, .slice a4.1 a4.2.1 a4.2.2, .slice a5.1 a5.2.1 a5.2.2]); refine (CS1.out _).mono ?_; rintro e w6 ⟨rfl, hb6'⟩; have hb6 : Below w5.heap.size w5 w6 := (below_drewN (Below.refl _ _) 1).trans hb6'; have hga6 := Nat.lt_of_lt_of_le hga hb6.size; have hgb6 := Nat.lt_of_lt_of_le hgb hb6.size; have ya0 := (hb6.cell (p := ⟨ga, 0, none⟩) hga).trans xa0; have ya1 := (hb6.cell (p := ⟨ga, 1, none⟩) hga).trans xa1; have ya2 := (hb6.cell (p := ⟨ga, 2, none⟩) hga).trans xa2; have ya3 := (hb6.cell (p := ⟨ga, 3, none⟩) hga).trans xa3; have ya4 := (hb6.cell (p := ⟨ga, 4, none⟩) hga).trans xa4; have ya5 := (hb6.cell (p := ⟨ga, 5, none⟩) hga).trans xa5; have yb0 := (hb6.cell (p := ⟨gb, 0, none⟩) hgb).trans xb0; have yb1 := (hb6.cell (p := ⟨gb, 1, none⟩) hgb).trans xb1; have yb2 := (hb6.cell (p := ⟨gb, 2, none⟩) hgb).trans xb2; have yb3 := (hb6.cell (p := ⟨gb, 3, none⟩) hgb).trans xb3; have yb4 := (hb6.cell (p := ⟨gb, 4, none⟩) hgb).trans xb4; have yb5 := (hb6.cell (p := ⟨gb, 5, none⟩) hgb).trans xb5; clear hb6') | (go_at_call_of 35 (Value.agg #[.slice b0.1 b0.2.1 b0.2.2, .slice b1.1 b1.2.1 b1.2.2, .slice b2.1 b2.2.1 b2.2.2, .slice b3.1 b3.2.1 b3.2.2, .slice b4.1 b4.2.1 b4.2.2, .slice b5.1 b5.2.1 b5.2.2]); refine (CS2.out _).mono ?_; rintro e w7 ⟨rfl, hb7'⟩; have hb7 : Below w5.heap.size w5 w7 := hb6.trans (hb7'.mono hb6.size); have za0 := (hb7.cell (p := ⟨ga, 0, none⟩) hga).trans xa0; have za1 := (hb7.cell (p := ⟨ga, 1, none⟩) hga).trans xa1; have za2 := (hb7.cell (p := ⟨ga, 2, none⟩) hga).trans xa2; have za3 := (hb7.cell (p := ⟨ga, 3, none⟩) hga).trans xa3; have za4 := (hb7.cell (p := ⟨ga, 4, none⟩) hga).trans xa4; have za5 := (hb7.cell (p := ⟨ga, 5, none⟩) hga).trans xa5; have zb0 := (hb7.cell (p := ⟨gb, 0, none⟩) hgb).trans xb0; have zb1 := (hb7.cell (p := ⟨gb, 1, none⟩) hgb).trans xb1; have zb2 := (hb7.cell (p := ⟨gb, 2, none⟩) hgb).trans xb2; have zb3 := (hb7.cell (p := ⟨gb, 3, none⟩) hgb).trans xb3; have zb4 := (hb7.cell (p := ⟨gb, 4, none⟩) hgb).trans xb4; have zb5 := (hb7.cell (p := ⟨gb, 5, none⟩) hgb).trans xb5; clear hb7'))
  all_goals
    go_wp2
    go_ret2
    exact ⟨rfl, HB5.out.trans (hb7.mono HB5.out.size)⟩
set_option maxHeartbeats 32000000 in
set_option maxRecDepth 8000 in
theorem dMeld_D (p1 p2 : Option Addr) (n1 c1 n2 c2 m1 m2 : Nat) (g1 g2 : List TrL) (w : World) (h1 : m1 ≤ 60) (h2 : m2 ≤ 60) (h3 : m1 + m2 ≤ 60) (HM1 : Hid ((itemsH g1).length = m1)) (HM2 : Hid ((itemsH g2).length = m2)) (HG1 : Hid (OkH g1)) (HG2 : Hid (OkH g2)) (HA : Hid (HpAt w (.slice p1 n1 c1) (zH g1))) (HB : Hid (HpAt w (.slice p2 n2 c2) (zH g2)))
    (C1 : Hid (Calls Tryd.prog 9 #[.slice p1 n1 c1] w fun e w' => e = .returned .nilIface ∧ Below w.heap.size w w'))
    (C2 : Hid (∀ w1, Below w.heap.size w w1 → Calls Tryd.prog 9 #[.slice p2 n2 c2] w1 fun e w' => e = .returned .nilIface ∧ Below w1.heap.size w1 w')) :
    Calls Tryd.prog 12 #[.slice p1 n1 c1, .slice p2 n2 c2] w fun e w' => ∃ u, e = .returned (.tuple #[u, .nilIface]) ∧ NewH w.heap.size w' u (meldH g1 g2) ∧ Below w.heap.size w w' := by
  have hw : IntKind.i64.wrap ((m1 : Int) + (m2 : Int)) = (m1 : Int) + (m2 : Int) := by rw [IntKind.wrap_i64]; omega
  have hz : ¬ (60 : Int) < (m1 : Int) + (m2 : Int) := by omega
  go_enter Tryd.func12, Tryd.ntmps12
  go_wp2_with fail
  refine C1.out.mono ?_
  rintro e w1 ⟨rfl, hb1⟩
  go_wp2_with fail
  refine (C2.out w1 hb1).mono ?_
  rintro e w2 ⟨rfl, hb2'⟩
  have hb2 := hb1.trans (hb2'.mono hb1.size)
  clear hb2' hb1
  have cR1 := read_any _ g1 w2 (HA.out.below hb2) HG1.out
  go_wp2_with fail
  refine cR1.mono ?_
  rintro e w3 ⟨d1, he, hd1, hb3'⟩
  obtain ⟨a0, a1, a2, a3, a4, a5, rfl⟩ := six hd1.1
  have he' : e = .returned (.agg #[.slice a0.1 a0.2.1 a0.2.2, .slice a1.1 a1.2.1 a1.2.2, .slice a2.1 a2.2.1 a2.2.2, .slice a3.1 a3.2.1 a3.2.2, .slice a4.1 a4.2.1 a4.2.2, .slice a5.1 a5.2.1 a5.2.2]) := he
  subst he'
  have hb3 := hb2.trans (hb3'.mono hb2.size)
  have HD1 : Hid (DgAt w3 [a0, a1, a2, a3, a4, a5] (digitH g1)) := hd1.below hb3'
  clear he hd1 hb3' cR1 hb2
  have cR2 := read_any _ g2 w3 (HB.out.below hb3) HG2.out
  go_wp2_with fail
  refine cR2.mono ?_
  rintro e w4 ⟨d2, he, hd2, hb4'⟩
  obtain ⟨b0, b1, b2, b3, b4, b5, rfl⟩ := six hd2.1
  have he' : e = .returned (.agg #[.slice b0.1 b0.2.1 b0.2.2, .slice b1.1 b1.2.1 b1.2.2, .slice b2.1 b2.2.1 b2.2.2, .slice b3.1 b3.2.1 b3.2.2, .slice b4.1 b4.2.1 b4.2.2, .slice b5.1 b5.2.1 b5.2.2]) := he
  subst he'
  have hb4 := hb3.trans (hb4'.mono hb3.size)
  have HD1b : Hid (DgAt w4 [a0, a1, a2, a3, a4, a5] (digitH g1)) := HD1.out.below hb4'
  have HD2b : Hid (DgAt w4 [b0, b1, b2, b3, b4, b5] (digitH g2)) := hd2.below hb4'
  clear he hd2 hb4' cR2 hb3 HD1
  have HW5 : Hid (Below w4.heap.size w4 ((w4.alloc (.cells #[.slice a0.1 a0.2.1 a0.2.2, .slice a1.1 a1.2.1 a1.2.2, .slice a2.1 a2.2.1 a2.2.2, .slice a3.1 a3.2.1 a3.2.2, .slice a4.1 a4.2.1 a4.2.2, .slice a5.1 a5.2.1 a5.2.2] 62)).alloc (.cells #[.slice b0.1 b0.2.1 b0.2.2, .slice b1.1 b1.2.1 b1.2.2, .slice b2.1 b2.2.1 b2.2.2, .slice b3.1 b3.2.1 b3.2.2, .slice b4.1 b4.2.1 b4.2.2, .slice b5.1 b5.2.1 b5.2.2] 62))) := ((Below.refl _ _).alloc (Nat.le_refl _) _).alloc (by simp) _
  have HSA : Hid (WrE ES ((w4.alloc (.cells #[.slice a0.1 a0.2.1 a0.2.2, .slice a1.1 a1.2.1 a1.2.2, .slice a2.1 a2.2.1 a2.2.2, .slice a3.1 a3.2.1 a3.2.2, .slice a4.1 a4.2.1 a4.2.2, .slice a5.1 a5.2.1 a5.2.2] 62)).alloc (.cells #[.slice b0.1 b0.2.1 b0.2.2, .slice b1.1 b1.2.1 b1.2.2, .slice b2.1 b2.2.1 b2.2.2, .slice b3.1 b3.2.1 b3.2.2, .slice b4.1 b4.2.1 b4.2.2, .slice b5.1 b5.2.1 b5.2.2] 62)) w4.heap.size 0 [a0, a1, a2, a3, a4, a5]) := (new_six w4 a0 a1 a2 a3 a4 a5 _).alloc' _
  have HSB : Hid (WrE ES ((w4.alloc (.cells #[.slice a0.1 a0.2.1 a0.2.2, .slice a1.1 a1.2.1 a1.2.2, .slice a2.1 a2.2.1 a2.2.2, .slice a3.1 a3.2.1 a3.2.2, .slice a4.1 a4.2.1 a4.2.2, .slice a5.1 a5.2.1 a5.2.2] 62)).alloc (.cells #[.slice b0.1 b0.2.1 b0.2.2, .slice b1.1 b1.2.1 b1.2.2, .slice b2.1 b2.2.1 b2.2.2, .slice b3.1 b3.2.1 b3.2.2, .slice b4.1 b4.2.1 b4.2.2, .slice b5.1 b5.2.1 b5.2.2] 62)) (w4.heap.size + 1) 0 [b0, b1, b2, b3, b4, b5]) := by
    show WrE _ _ _ _ _
    have h := new_six (w4.alloc (.cells #[.slice a0.1 a0.2.1 a0.2.2, .slice a1.1 a1.2.1 a1.2.2, .slice a2.1 a2.2.1 a2.2.2, .slice a3.1 a3.2.1 a3.2.2, .slice a4.1 a4.2.1 a4.2.2, .slice a5.1 a5.2.1 a5.2.2] 62)) b0 b1 b2 b3 b4 b5 62
    rw [show (w4.alloc (.cells #[.slice a0.1 a0.2.1 a0.2.2, .slice a1.1 a1.2.1 a1.2.2, .slice a2.1 a2.2.1 a2.2.2, .slice a3.1 a3.2.1 a3.2.2, .slice a4.1 a4.2.1 a4.2.2, .slice a5.1 a5.2.1 a5.2.2] 62)).heap.size = w4.heap.size + 1 by simp] at h
    exact h
  go_wp2_with fail
  generalize ((w4.alloc (.cells #[.slice a0.1 a0.2.1 a0.2.2, .slice a1.1 a1.2.1 a1.2.2, .slice a2.1 a2.2.1 a2.2.2, .slice a3.1 a3.2.1 a3.2.2, .slice a4.1 a4.2.1 a4.2.2, .slice a5.1 a5.2.1 a5.2.2] 62)).alloc (.cells #[.slice b0.1 b0.2.1 b0.2.2, .slice b1.1 b1.2.1 b1.2.2, .slice b2.1 b2.2.1 b2.2.2, .slice b3.1 b3.2.1 b3.2.2, .slice b4.1 b4.2.1 b4.2.2, .slice b5.1 b5.2.1 b5.2.2] 62)) = w5 at HW5 HSA HSB ⊢
  have hga : w4.heap.size < w5.heap.size := HSA.out.lt
  have hgb : w4.heap.size + 1 < w5.heap.size := HSB.out.lt
  obtain ⟨⟨xa0, xa1, xa2, xa3, xa4, xa5⟩, _⟩ := HSA.out.six
  obtain ⟨⟨xb0, xb1, xb2, xb3, xb4, xb5⟩, _⟩ := HSB.out.six
  have HB5 : Hid (Below w.heap.size w w5) := hb4.trans (HW5.out.mono hb4.size)
  have HD1c : Hid (DgAt w5 [a0, a1, a2, a3, a4, a5] (digitH g1)) := HD1b.out.below HW5.out
  have HD2c : Hid (DgAt w5 [b0, b1, b2, b3, b4, b5] (digitH g2)) := HD2b.out.below HW5.out
  clear HSA HSB HW5 hb4 HD1b HD2b
  generalize w4.heap.size + 1 = gb at *
  generalize w4.heap.size = ga at *
  have CS1 : Hid (∀ W, Calls Tryd.prog 35 #[.agg #[.slice a0.1 a0.2.1 a0.2.2, .slice a1.1 a1.2.1 a1.2.2, .slice a2.1 a2.2.1 a2.2.2, .slice a3.1 a3.2.1 a3.2.2, .slice a4.1 a4.2.1 a4.2.2, .slice a5.1 a5.2.1 a5.2.2]] W fun e w' => e = .returned (.int .i64 (m1 : Int)) ∧ Below W.heap.size W w') := by
    show ∀ W, _
    intro W
    have := dsize_any _ _ w5 W HD1c.out (fun j hj => dig_len HG1.out.isH j hj)
    rw [HG1.out.cat, HM1.out] at this
    exact this
  have CS2 : Hid (∀ W, Calls Tryd.prog 35 #[.agg #[.slice b0.1 b0.2.1 b0.2.2, .slice b1.1 b1.2.1 b1.2.2, .slice b2.1 b2.2.1 b2.2.2, .slice b3.1 b3.2.1 b3.2.2, .slice b4.1 b4.2.1 b4.2.2, .slice b5.1 b5.2.1 b5.2.2]] W fun e w' => e = .returned (.int .i64 (m2 : Int)) ∧ Below W.heap.size W w') := by
    show ∀ W, _
    intro W
    have := dsize_any _ _ w5 W HD2c.out (fun j hj => dig_len HG2.out.isH j hj)
    rw [HG2.out.cat, HM2.out] at this
    exact this
  have CM : Hid (∀ W, Below w5.heap.size w5 W → Calls Tryd.prog 37 #[.agg #[.slice a0.1 a0.2.1 a0.2.2, .slice a1.1 a1.2.1 a1.2.2, .slice a2.1 a2.2.1 a2.2.2, .slice a3.1 a3.2.1 a3.2.2, .slice a4.1 a4.2.1 a4.2.2, .slice a5.1 a5.2.1 a5.2.2], .agg #[.slice b0.1 b0.2.1 b0.2.2, .slice b1.1 b1.2.1 b1.2.2, .slice b2.1 b2.2.1 b2.2.2, .slice b3.1 b3.2.1 b3.2.2, .slice b4.1 b4.2.1 b4.2.2, .slice b5.1 b5.2.1 b5.2.2]] W fun e w' => ∃ d, e = .returned (agV d) ∧ DgAt w' d (outAt (digitH g1) (digitH g2)) ∧ Below W.heap.size W w') := by
    show ∀ W, _
    intro W hb
    have := melded_any [a0, a1, a2, a3, a4, a5] [b0, b1, b2, b3, b4, b5] (digitH g1) (digitH g2) W (HD1c.out.below hb) (HD2c.out.below hb) (dig_len HG1.out.isH) (dig_len HG2.out.isH) (car_len HG1.out.isH HG2.out.isH)
    exact this
  go_region_held3 (fun w' => w'.cell? ⟨ga, 0, none⟩ = some (.slice a0.1 a0.2.1 a0.2.2) ∧ w'.cell? ⟨ga, 1, none⟩ = some (.slice a1.1 a1.2.1 a1.2.2) ∧ w'.cell? ⟨ga, 2, none⟩ = some (.slice a2.1 a2.2.1 a2.2.2) ∧ w'.cell? ⟨ga, 3, none⟩ = some (.slice a3.1 a3.2.1 a3.2.2) ∧ w'.cell? ⟨ga, 4, none⟩ = some (.slice a4.1 a4.2.1 a4.2.2) ∧ w'.cell? ⟨ga, 5, none⟩ = some (.slice a5.1 a5.2.1 a5.2.2) ∧ w'.cell? ⟨gb, 0, none⟩ = some (.slice b0.1 b0.2.1 b0.2.2) ∧ w'.cell? ⟨gb, 1, none⟩ = some (.slice b1.1 b1.2.1 b1.2.2) ∧ w'.cell? ⟨gb, 2, none⟩ = some (.slice b2.1 b2.2.1 b2.2.2) ∧ w'.cell? ⟨gb, 3, none⟩ = some (.slice b3.1 b3.2.1 b3.2.2) ∧ w'.cell? ⟨gb, 4, none⟩ = some (.slice b4.1 b4.2.1 b4.2.2) ∧ w'.cell? ⟨gb, 5, none⟩ = some (.slice b5.1 b5.2.1 b5.2.2)) (first | go_keep | (exact ⟨ya0, ya1, ya2, ya3, ya4, ya5, yb0, yb1, yb2, yb3, yb4, yb5⟩) | (exact ⟨za0, za1, za2, za3, za4, za5, zb0, zb1, zb2, zb3, zb4, zb5⟩)) (first | (go_at_call_of 35 (Value.agg #[.slice a0.1 a0.2.1 a0.2.2, .slice a1.1 a1.2.1 a1.2.2, .slice a2.1 a2.2.1 a2.2.2, .slice a3.1 a3.2.1 a3.2.2, .slice a4.1 a4.2.1 a4.2.2, .slice a5.1 a5.2.1 a5.2.2]); refine (CS1.out _).mono ?_; rintro e w6 ⟨rfl, hb6'⟩; have hb6 : Below w5.heap.size w5 w6 := (below_drewN (Below.refl _ _) 1).trans hb6'; have hga6 := Nat.lt_of_lt_of_le hga hb6.size; have hgb6 := Nat.lt_of_lt_of_le hgb hb6.size; have ya0 := (hb6.cell (p := ⟨ga, 0, none⟩) hga).trans xa0; have ya1 := (hb6.cell (p := ⟨ga, 1, none⟩) hga).trans xa1; have ya2 := (hb6.cell (p := ⟨ga, 2, none⟩) hga).trans xa2; have ya3 := (hb6.cell (p := ⟨ga, 3, none⟩) hga).trans xa3; have ya4 := (hb6.cell (p := ⟨ga, 4, none⟩) hga).trans xa4; have ya5 := (hb6.cell (p := ⟨ga, 5, none⟩) hga).trans xa5; have yb0 := (hb6.cell (p := ⟨gb, 0, none⟩) hgb).trans xb0; have yb1 := (hb6.cell (p := ⟨gb, 1, none⟩) hgb).trans xb1; have yb2 := (hb6.cell (p := ⟨gb, 2, none⟩) hgb).trans xb2; have yb3 := (hb6.cell (p := ⟨gb, 3, none⟩) hgb).trans xb3; have yb4 := (hb6.cell (p := ⟨gb, 4, none⟩) hgb).trans xb4; have yb5 := (hb6.cell (p := ⟨gb, 5, none⟩) hgb).trans xb5; clear hb6') | (go_at_call_of 35 (Value.agg #[.slice b0.1 b0.2.1 b0.2.2, .slice b1.1 b1.2.1 b1.2.2, .slice b2.1 b2.2.1 b2.2.2, .slice b3.1 b3.2.1 b3.2.2, .slice b4.1 b4.2.1 b4.2.2, .slice b5.1 b5.2.1 b5.2.2]); refine (CS2.out _).mono ?_; rintro e w7 ⟨rfl, hb7'⟩; have hb7 : Below w5.heap.size w5 w7 := hb6.trans (hb7'.mono hb6.size); have za0 := (hb7.cell (p := ⟨ga, 0, none⟩) hga).trans xa0; have za1 := (hb7.cell (p := ⟨ga, 1, none⟩) hga).trans xa1; have za2 := (hb7.cell (p := ⟨ga, 2, none⟩) hga).trans xa2; have za3 := (hb7.cell (p := ⟨ga, 3, none⟩) hga).trans xa3; have za4 := (hb7.cell (p := ⟨ga, 4, none⟩) hga).trans xa4; have za5 := (hb7.cell (p := ⟨ga, 5, none⟩) hga).trans xa5; have zb0 := (hb7.cell (p := ⟨gb, 0, none⟩) hgb).trans xb0; have zb1 := (hb7.cell (p := ⟨gb, 1, none⟩) hgb).trans xb1; have zb2 := (hb7.cell (p := ⟨gb, 2, none⟩) hgb).trans xb2; have zb3 := (hb7.cell (p := ⟨gb, 3, none⟩) hgb).trans xb3; have zb4 := (hb7.cell (p := ⟨gb, 4, none⟩) hgb).trans xb4; have zb5 := (hb7.cell (p := ⟨gb, 5, none⟩) hgb).trans xb5; clear hb7'))
  all_goals
    go_wp2_with fail
    refine (CM.out w7 hb7).mono ?_
    rintro e w8 ⟨d3, he, hd3, hb8'⟩
    obtain ⟨e0, e1, e2, e3, e4, e5, rfl⟩ := six hd3.1
    have he' : e = .returned (.agg #[.slice e0.1 e0.2.1 e0.2.2, .slice e1.1 e1.2.1 e1.2.2, .slice e2.1 e2.2.1 e2.2.2, .slice e3.1 e3.2.1 e3.2.2, .slice e4.1 e4.2.1 e4.2.2, .slice e5.1 e5.2.1 e5.2.2]) := he
    subst he'
    have hb8 : Below w.heap.size w w8 := HB5.out.trans ((hb7.trans (hb8'.mono hb7.size)).mono HB5.out.size)
    have CW : Hid (Calls Tryd.prog 36 #[.agg #[.slice e0.1 e0.2.1 e0.2.2, .slice e1.1 e1.2.1 e1.2.2, .slice e2.1 e2.2.1 e2.2.2, .slice e3.1 e3.2.1 e3.2.2, .slice e4.1 e4.2.1 e4.2.2, .slice e5.1 e5.2.1 e5.2.2]] w8 fun e w' => ∃ u, e = .returned u ∧ NewH w8.heap.size w' u (putTo (outAt (digitH g1) (digitH g2)) 6) ∧ Below w8.heap.size w8 w') := by
      show Calls _ _ _ _ _
      have := written_any [e0, e1, e2, e3, e4, e5] (outAt (digitH g1) (digitH g2)) w8 hd3 (out_len HG1.out.isH HG2.out.isH)
      exact this
    clear he hd3 hb8' hb7 za0 za1 za2 za3 za4 za5 zb0 zb1 zb2 zb3 zb4 zb5
    go_wp2_with fail
    refine CW.out.mono ?_
    rintro e w9 ⟨u, rfl, hu, hb9'⟩
    have HU : Hid (NewH w8.heap.size w9 u (putTo (outAt (digitH g1) (digitH g2)) 6)) := hu
    clear hu
    go_wp2
    go_ret2
    refine ⟨_, rfl, ?_, hb8.trans (hb9'.mono hb8.size)⟩
    rw [meldH_six HG1.out HG2.out (by rw [HM1.out, HM2.out]; exact h3)]
    exact HU.out.weak hb8.size
/-- What is wrong with two heaps that are to be melded. -/
def meldE (h1 h2 : List (Int × List (Int × Int))) : Nat := if binoE h1 = 0 then (if binoE h2 = 0 then (if 60 < sizeZ h1 + sizeZ h2 then 4 else 0) else binoE h2) else binoE h1
/-- The bounds of what comes in. -/
def FitH (h : List (Int × List (Int × Int))) : Prop := h.length ≤ 9223372036854775807 ∧ ∀ t ∈ h, t.2.length ≤ 9223372036854775807
theorem OkH.fit {g : List TrL} (h : OkH g) : FitH (zH g) := by
  refine ⟨by rw [zH_len]; have := h.len_le; omega, fun t ht => ?_⟩
  unfold zH at ht
  obtain ⟨u, hu, rfl⟩ := List.mem_map.1 ht
  have h1 := mem_items_len hu
  have h2 := h.size
  show u.2.length ≤ _
  omega
theorem dMeld_bad (v1 v2 : Value) (h1 h2 : List (Int × List (Int × Int))) (k : Nat) (w : World) (H1 : HpAt w v1 h1) (H2 : HpAt w v2 h2) (f1 : FitH h1) (f2 : FitH h2) (hk : meldE h1 h2 = k) (h0 : k ≠ 0) :
    Calls Tryd.prog 12 #[v1, v2] w fun e w' => e = .returned (.tuple #[.slice none 0 0, .iface 56 (.int .i64 k)]) ∧ Below w.heap.size w w' := by
  obtain ⟨p1, c1, rfl⟩ := H1.form
  obtain ⟨p2, c2, rfl⟩ := H2.form
  have k1 := dcheck_any _ h1 w H1 f1.1 f1.2
  unfold meldE at hk
  by_cases e1 : binoE h1 = 0
  · rw [if_pos e1] at hk
    rw [e1, errV_zero] at k1
    have k2 := fun w1 (hb : Below w.heap.size w w1) => dcheck_any _ h2 w1 (H2.below hb) f2.1 f2.2
    by_cases e2 : binoE h2 = 0
    · rw [if_pos e2] at hk
      rw [e2, errV_zero] at k2
      by_cases h60 : 60 < sizeZ h1 + sizeZ h2
      · rw [if_pos h60] at hk
        subst hk
        obtain ⟨g1, rfl, G1⟩ := binoE_zero e1
        obtain ⟨g2, rfl, G2⟩ := binoE_zero e2
        rw [sizeZ_zH, sizeZ_zH] at h60
        exact dMeld_C p1 p2 _ c1 _ c2 _ _ g1 g2 w G1.size G2.size h60 rfl rfl G1 G2 H1 H2 k1 k2
      · rw [if_neg h60] at hk; exact absurd hk.symm h0
    · rw [if_neg e2] at hk
      rw [errV_pos e2, hk] at k2
      exact dMeld_B p1 p2 _ c1 _ c2 k w k1 k2
  · rw [if_neg e1] at hk
    rw [errV_pos e1, hk] at k1
    exact dMeld_A p1 p2 _ c1 _ c2 k w k1
theorem dMeld_good (v1 v2 : Value) (g1 g2 : List TrL) (w : World) (H1 : HpAt w v1 (zH g1)) (H2 : HpAt w v2 (zH g2)) (G1 : OkH g1) (G2 : OkH g2) (h60 : (itemsH g1).length + (itemsH g2).length ≤ 60) :
    Calls Tryd.prog 12 #[v1, v2] w fun e w' => ∃ u, e = .returned (.tuple #[u, .nilIface]) ∧ NewH w.heap.size w' u (meldH g1 g2) ∧ Below w.heap.size w w' := by
  obtain ⟨p1, c1, rfl⟩ := H1.form
  obtain ⟨p2, c2, rfl⟩ := H2.form
  have k1 := dcheck_any _ _ w H1 G1.fit.1 G1.fit.2
  rw [binoE_ok G1, errV_zero] at k1
  have k2 := fun w1 (hb : Below w.heap.size w w1) => dcheck_any _ _ w1 (H2.below hb) G2.fit.1 G2.fit.2
  rw [binoE_ok G2, errV_zero] at k2
  exact dMeld_D p1 p2 _ c1 _ c2 _ _ g1 g2 w G1.size G2.size h60 rfl rfl G1 G2 H1 H2 k1 k2

/-- The heap of an item alone. -/
abbrev aloneH (x : Int × Int) : List TrL := [(0, [x])]
abbrev aloneW (w : World) (x0 x1 : Int) : World := ((w.alloc (.cells #[.int .i64 x0, .int .i64 x1] 24)).alloc (.cells #[.int .i64 x0, .int .i64 x1] 24)).alloc (.cells #[.int .i64 0, .slice (some ⟨w.heap.size + 1, 0, none⟩) 1 1] 37)
theorem aloneB (w : World) (x0 x1 : Int) : Below w.heap.size w (aloneW w x0 x1) := (((Below.refl _ _).alloc (Nat.le_refl _) _).alloc (by simp) _).alloc (by simp; omega) _
theorem alone_at (w : World) (x0 x1 : Int) : HpAt (aloneW w x0 x1) (.slice (some ⟨w.heap.size + 1 + 1, 0, none⟩) 1 1) (zH (aloneH (x0, x1))) := by
  have hsz : ((w.alloc (.cells #[.int .i64 x0, .int .i64 x1] 24)).alloc (.cells #[.int .i64 x0, .int .i64 x1] 24)).heap.size = w.heap.size + 1 + 1 := by simp
  have key : ∀ (o : Nat) (u : Value), (#[.int .i64 x0, .int .i64 x1] : Array Value)[o]? = some u → (aloneW w x0 x1).cell? ⟨w.heap.size + 1, o, none⟩ = some u := fun o u hu => by
    have h : ((w.alloc (.cells #[.int .i64 x0, .int .i64 x1] 24)).alloc (.cells #[.int .i64 x0, .int .i64 x1] 24)).cell? ⟨(w.alloc (.cells #[.int .i64 x0, .int .i64 x1] 24)).heap.size, o, none⟩ = some u := by
      match o, hu with
      | 0, hu => cases hu; simp
      | 1, hu => cases hu; simp
      | o + 2, hu => simp at hu
    rw [show (w.alloc (.cells #[.int .i64 x0, .int .i64 x1] 24)).heap.size = w.heap.size + 1 by simp] at h
    exact (((Below.refl _ _).alloc (Nat.le_refl _) _).cell (p := ⟨w.heap.size + 1, o, none⟩) (by rw [hsz]; exact Nat.lt_succ_self _)).trans h
  have q0 := key 0 _ rfl
  have q1 := key 1 _ rfl
  refine ⟨[(0, some ⟨w.heap.size + 1, 0, none⟩, 1, 1)], SlE.of_rd ⟨by simp, fun j v hv => ?_⟩ rfl (Nat.le_refl _), rfl, fun i r l e => ?_⟩
  · rw [El.flat_one] at hv
    have := new_tree ((w.alloc (.cells #[.int .i64 x0, .int .i64 x1] 24)).alloc (.cells #[.int .i64 x0, .int .i64 x1] 24)) (w.heap.size + 1 + 1) hsz.symm 0 (some ⟨w.heap.size + 1, 0, none⟩) 1 1 j v hv
    rw [show ((⟨w.heap.size + 1 + 1, 0, none⟩ : Addr).add j) = ⟨w.heap.size + 1 + 1, 0 + j, none⟩ by unfold Addr.add; split <;> simp_all] at this
    exact this
  · match i, e with
    | 0, e =>
      cases e
      refine ⟨_, rfl, _, 1, rfl, Nat.le_refl _, Or.inr ⟨w.heap.size + 1, 0, rfl, by simp, fun i hi => ?_⟩⟩
      have h0 : i = 0 := by simp at hi; exact hi
      subst h0
      exact ⟨q0, q1⟩
    | i + 1, e => simp [zH] at e
theorem alone_ok {x : Int × Int} (h : outB x = false) : OkH (aloneH x) :=
  ⟨IsH.one (IsT.one x), fun t ht => by rw [List.mem_singleton.1 ht]; exact Nat.zero_le _, fun y hy => by simp [itemsH] at hy; rw [hy]; exact h, by simp [itemsH]⟩
theorem alone_fit (x : Int × Int) : FitH (zH (aloneH x)) := ⟨by simp [zH], fun t ht => by simp [zH] at ht; rw [ht]; simp⟩
theorem alone_bad {x : Int × Int} (h : outB x = true) : binoE (zH (aloneH x)) = 1 := by
  have h0 : rankE (-1) (zH (aloneH x)) = 0 := by simp [zH, rankE]
  exact outE_bad (i := 0) (r := 0) (l := [x]) h0 rfl (by unfold anyOut; simp [h])
set_option maxHeartbeats 4000000 in
theorem dPush_A (p : Option Addr) (n cap k : Nat) (x0 x1 : Int) (w : World)
    (C : Hid (Calls Tryd.prog 12 #[.slice p n cap, .slice (some ⟨w.heap.size + 1 + 1, 0, none⟩) 1 1] (((w.alloc (.cells #[.int .i64 x0, .int .i64 x1] 24)).alloc (.cells #[.int .i64 x0, .int .i64 x1] 24)).alloc (.cells #[.int .i64 0, .slice (some ⟨w.heap.size + 1, 0, none⟩) 1 1] 37)) fun e w' => e = .returned (.tuple #[.slice none 0 0, .iface 56 (.int .i64 k)]) ∧ Below w.heap.size w w')) :
    Calls Tryd.prog 15 #[.slice p n cap, .agg #[.int .i64 x0, .int .i64 x1]] w fun e w' => e = .returned (.tuple #[.slice none 0 0, .iface 56 (.int .i64 k)]) ∧ Below w.heap.size w w' := by
  go_enter Tryd.func15, Tryd.ntmps15
  go_wp2_with fail
  refine C.out.mono ?_
  rintro e w2 ⟨rfl, hb⟩
  go_wp2
  go_ret2
  exact ⟨rfl, hb⟩
set_option maxHeartbeats 4000000 in
theorem dPush_B (p : Option Addr) (n cap : Nat) (x0 x1 : Int) (w : World) (g : List TrL)
    (C : Hid (Calls Tryd.prog 12 #[.slice p n cap, .slice (some ⟨w.heap.size + 1 + 1, 0, none⟩) 1 1] (((w.alloc (.cells #[.int .i64 x0, .int .i64 x1] 24)).alloc (.cells #[.int .i64 x0, .int .i64 x1] 24)).alloc (.cells #[.int .i64 0, .slice (some ⟨w.heap.size + 1, 0, none⟩) 1 1] 37)) fun e w' => ∃ u, e = .returned (.tuple #[u, .nilIface]) ∧ NewH w.heap.size w' u g ∧ Below w.heap.size w w')) :
    Calls Tryd.prog 15 #[.slice p n cap, .agg #[.int .i64 x0, .int .i64 x1]] w fun e w' => ∃ u, e = .returned (.tuple #[u, .nilIface]) ∧ NewH w.heap.size w' u g ∧ Below w.heap.size w w' := by
  go_enter Tryd.func15, Tryd.ntmps15
  go_wp2_with fail
  refine C.out.mono ?_
  rintro e w2 ⟨u, rfl, hu, hb⟩
  have HU : Hid (NewH w.heap.size w2 u g) := hu
  clear hu
  go_wp2
  go_ret2
  exact ⟨_, rfl, HU.out, hb⟩
theorem dPush_bad (v : Value) (x0 x1 : Int) (h : List (Int × List (Int × Int))) (k : Nat) (w : World) (H : HpAt w v h) (f : FitH h) (hk : meldE h (zH (aloneH (x0, x1))) = k) (h0 : k ≠ 0) :
    Calls Tryd.prog 15 #[v, .agg #[.int .i64 x0, .int .i64 x1]] w fun e w' => e = .returned (.tuple #[.slice none 0 0, .iface 56 (.int .i64 k)]) ∧ Below w.heap.size w w' := by
  obtain ⟨p, cap, rfl⟩ := H.form
  refine dPush_A p _ cap k x0 x1 w ?_
  have hb := aloneB w x0 x1
  exact (dMeld_bad _ _ h _ k _ (H.below hb) (alone_at w x0 x1) f (alone_fit _) hk h0).mono fun e w' ⟨a, b⟩ => ⟨a, hb.trans (b.mono hb.size)⟩
theorem dPush_good (v : Value) (x0 x1 : Int) (g : List TrL) (w : World) (H : HpAt w v (zH g)) (G : OkH g) (ho : outB (x0, x1) = false) (h60 : (itemsH g).length < 60) :
    Calls Tryd.prog 15 #[v, .agg #[.int .i64 x0, .int .i64 x1]] w fun e w' => ∃ u, e = .returned (.tuple #[u, .nilIface]) ∧ NewH w.heap.size w' u (meldH g (aloneH (x0, x1))) ∧ Below w.heap.size w w' := by
  obtain ⟨p, cap, rfl⟩ := H.form
  refine dPush_B p _ cap x0 x1 w _ ?_
  have hb := aloneB w x0 x1
  exact (dMeld_good _ _ g (aloneH (x0, x1)) _ (H.below hb) (alone_at w x0 x1) G (alone_ok ho) (by simp [itemsH] at h60 ⊢; omega)).mono fun e w' ⟨u, a, b, c⟩ => ⟨u, a, b.weak hb.size, hb.trans (c.mono hb.size)⟩
#print axioms dPush_bad
#print axioms dPush_good
end Go.Proofs.YtmkjalpgeljnkaaDoor
