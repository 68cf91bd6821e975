/-
  Package soft: Many, Wrong.
-/
import Derived.Test.YtdpfijhkbhmkgaaDoorSoS
namespace Go.Proofs.YtdpfijhkbhmkgaaDoor
open Go.RowKit Go.Sort Go.Proofs Go.Lib

set_option maxHeartbeats 4000000 in
theorem many_any : ∀ (s : Nat) (t : SN) (v : Value) (f : List Nat) (w : World), t.size ≤ s → NdAt w t v f → t.all.length ≤ 1000 →
    Calls Tryd.prog 35 #[v] w fun e w' => e = .returned (.int .i64 (t.all.length : Nat)) ∧ ∃ q, w' = w.drewN q := by
  have base : ∀ w : World, Calls Tryd.prog 35 #[.pointer none] w fun e w' => e = .returned (.int .i64 (0 : Nat)) ∧ ∃ q, w' = w.drewN q := by
    intro w
    go_enter Tryd.func35, Tryd.ntmps35
    go_wp2
    go_ret
    exact ⟨rfl, 0, rfl⟩
  intro s
  induction s with
  | zero =>
    intro t v f w hs h hl
    cases t using SN.parts with
    | nil => obtain ⟨rfl, _⟩ := nd_nil.1 h; rw [SN.all_nil]; exact base w
    | node k r m is a b => rw [SN.size_node] at hs; omega
  | succ s ih =>
    intro t v f w hs h hl
    cases t using SN.parts with
    | nil => obtain ⟨rfl, _⟩ := nd_nil.1 h; rw [SN.all_nil]; exact base w
    | node k r m is a b =>
      obtain ⟨nb, iv, va, vb, fi, fa, fb, rfl, hN, hI, hA, hB, hp⟩ := nd_node.1 h
      rw [SN.size_node] at hs
      rw [SN.all_node] at hl ⊢
      simp only [List.length_append] at hl ⊢
      obtain ⟨pa, rfl, _⟩ := hA.ptr
      obtain ⟨pb, rfl, _⟩ := hB.ptr
      obtain ⟨p, c, rfl⟩ := OwnE.form hI.1
      have CA : ∀ q, Calls Tryd.prog 35 #[.pointer pa] (w.drewN q) fun e w' => e = .returned (.int .i64 (a.all.length : Nat)) ∧ ∃ m, w' = (w.drewN q).drewN m := fun q => ih a _ fa (w.drewN q) (by omega) (hA.below (below_drewN' (Below.refl _ w) q)) (by omega)
      have CB : ∀ q, Calls Tryd.prog 35 #[.pointer pb] (w.drewN q) fun e w' => e = .returned (.int .i64 (b.all.length : Nat)) ∧ ∃ m, w' = (w.drewN q).drewN m := fun q => ih b _ fb (w.drewN q) (by omega) (hB.below (below_drewN' (Below.refl _ w) q)) (by omega)
      obtain ⟨c0, _, _, _, c4, c5⟩ := hN.cells
      clear ih hN hI hA hB hp h base hs
      generalize a.all.length = na at *
      generalize b.all.length = nbb at *
      generalize is.length = ni at *
      go_enter Tryd.func35, Tryd.ntmps35
      go_wp2_with fail
      go_quiet (first | (go_at_call_of 35 (Value.pointer pa); refine Calls.quiet_of (CA _)) | (go_at_call_of 35 (Value.pointer pb); refine Calls.quiet_of (CB _)))
      go_wp2
      go_ret
      exact ⟨by go_num, _, rfl⟩
/-- Of how many of these items the key is another one. -/
def wrK (k : Int) (is : List (Int × Int)) : Nat := (is.filter fun x => decide (x.1 ≠ k)).length
theorem wrK_step {k : Int} {is : List (Int × Int)} {i : Nat} {x : Int × Int} (e : is[i]? = some x) : wrK k (is.take (i + 1)) = wrK k (is.take i) + if x.1 = k then 0 else 1 := by
  obtain ⟨hi, rfl⟩ := List.getElem?_eq_some_iff.1 e
  unfold wrK
  rw [List.take_succ_eq_append_getElem hi, List.filter_append, List.length_append]
  congr 1
  by_cases q : is[i].1 = k <;> simp [q]
theorem wrK_le (k : Int) (is : List (Int × Int)) : wrK k is ≤ is.length := List.length_filter_le _ _
theorem wrK_take (k : Int) (is : List (Int × Int)) (i : Nat) : wrK k (is.take i) ≤ i := Nat.le_trans (wrK_le _ _) (by rw [List.length_take]; omega)
theorem wrong_node {k : Int} {r m : Nat} {is : List (Int × Int)} {a b : SN} : (SN.node k r m is a b).wrong = a.wrong + b.wrong + wrK k is := by
  rw [SN.wrong]; unfold wrK; omega
theorem wrong_all : ∀ (t : SN), t.wrong ≤ t.all.length
  | ⟨none⟩ => by simp [SN.wrong]
  | ⟨some (k, r, m, is, a, b)⟩ => by
    rw [show SN.wrong ⟨some (k, r, m, is, a, b)⟩ = _ from wrong_node, show SN.all ⟨some (k, r, m, is, a, b)⟩ = _ from SN.all_node k r m is a b]
    simp only [List.length_append]
    have h1 := wrong_all a
    have h2 := wrong_all b
    have h3 := wrK_le k is
    omega
theorem own_item {w : World} {g L cap i : Nat} {x : Int × Int} {is : List (Int × Int)} (h : OwnE EI w 0 (.slice (some ⟨g, 0, none⟩) L cap) is) (e : is[i]? = some x) : w.cell? ⟨g, i * 2, none⟩ = some (.int .i64 x.1) ∧ w.cell? ⟨g, i * 2 + 1, none⟩ = some (.int .i64 x.2) := by
  obtain ⟨cur, rest, _, _, hg, _, _, _, ht⟩ := h.rest
  have hi : i < is.length := (List.getElem?_eq_some_iff.1 e).1
  have hx : is[i] = x := (List.getElem?_eq_some_iff.1 e).2
  have q := lie_block (w := w) (b := g) (pre := []) (cs := EI.flat is) (post := rest) hg (by rw [ht]; rfl)
  have f0 := EI.flat_get is i hi 0 (by decide)
  have f1 := EI.flat_get is i hi 1 (by decide)
  rw [hx] at f0 f1
  exact ⟨by simpa [EI] using q _ _ f0, by simpa [EI] using q _ _ f1⟩
theorem int_eqS {a b : Int} (h : a = b) : Value.int .i64 a = .int .i64 b := by rw [h]
set_option maxHeartbeats 4000000 in
set_option maxRecDepth 4000 in
theorem wrong_any : ∀ (s : Nat) (t : SN) (v : Value) (f : List Nat) (w : World), t.size ≤ s → NdAt w t v f → t.all.length ≤ 1000 →
    Calls Tryd.prog 32 #[v] w fun e w' => e = .returned (.int .i64 (t.wrong : Nat)) ∧ Below w.heap.size w w' := by
  have base : ∀ w : World, Calls Tryd.prog 32 #[.pointer none] w fun e w' => e = .returned (.int .i64 (0 : Nat)) ∧ Below w.heap.size w w' := by
    intro w
    go_enter Tryd.func32, Tryd.ntmps32
    go_wp2
    go_ret
    exact ⟨rfl, Below.refl _ w⟩
  have wnil : SN.nil.wrong = 0 := by simp [SN.wrong]
  intro s
  induction s with
  | zero =>
    intro t v f w hs h hl
    cases t using SN.parts with
    | nil => obtain ⟨rfl, _⟩ := nd_nil.1 h; rw [wnil]; exact base w
    | node k r m is a b => rw [SN.size_node] at hs; omega
  | succ s ih =>
    intro t v f w hs h hl
    cases t using SN.parts with
    | nil => obtain ⟨rfl, _⟩ := nd_nil.1 h; rw [wnil]; exact base w
    | node k r m is a b =>
      obtain ⟨nb, iv, va, vb, fi, fa, fb, rfl, hN, hI, hA, hB, hp⟩ := nd_node.1 h
      rw [SN.size_node] at hs
      rw [SN.all_node] at hl
      simp only [List.length_append] at hl
      rw [wrong_node]
      obtain ⟨pa, rfl, _⟩ := hA.ptr
      obtain ⟨pb, rfl, _⟩ := hB.ptr
      obtain ⟨p, c, rfl⟩ := OwnE.form hI.1
      have CA : Hid (∀ w1, Below w.heap.size w w1 → Calls Tryd.prog 32 #[.pointer pa] w1 fun e w' => e = .returned (.int .i64 (a.wrong : Nat)) ∧ Below w.heap.size w w') := fun w1 hb => (ih a _ fa w1 (by omega) (hA.below hb) (by omega)).mono fun e w' ⟨q1, q2⟩ => ⟨q1, hb.trans (q2.mono hb.size)⟩
      have CB : Hid (∀ w1, Below w.heap.size w w1 → Calls Tryd.prog 32 #[.pointer pb] w1 fun e w' => e = .returned (.int .i64 (b.wrong : Nat)) ∧ Below w.heap.size w w') := fun w1 hb => (ih b _ fb w1 (by omega) (hB.below hb) (by omega)).mono fun e w' ⟨q1, q2⟩ => ⟨q1, hb.trans (q2.mono hb.size)⟩
      have na := wrong_all a
      have nbw := wrong_all b
      generalize a.wrong = wa at *
      generalize b.wrong = wb at *
      obtain ⟨c0, c1, _, _, c4, c5⟩ := hN.cells
      have hnb := hN.lt
      have HI := hid hI.1
      have HIS : Hid (is.length ≤ 1000) := by show _ ≤ _; omega
      have hwa : wa ≤ 1000 := by omega
      have hwb : wb ≤ 1000 := by omega
      obtain ⟨L, hL⟩ : ∃ L, is.length = L := ⟨_, rfl⟩
      rw [hL] at c0 HI HIS
      have HL := hid hL
      obtain ⟨gi, hgi⟩ : ∃ gi, L ≠ 0 → p = some ⟨gi, 0, none⟩ := by
        by_cases q : L = 0
        · exact ⟨0, fun z => absurd q z⟩
        · obtain ⟨g, cap, e, _⟩ := OwnE.some HI.out HL.out (Nat.pos_of_ne_zero q)
          simp only [Value.slice.injEq] at e
          exact ⟨g, fun _ => e.1⟩
      have HGI := hid hgi
      clear hgi
      have hL1 := HIS.out
      clear ih hN hI hA hB hp h base hs wnil na nbw hl hL HIS
      go_enter Tryd.func32, Tryd.ntmps32
      go_wp2_with fail
      go_region_held3 (fun w' => w'.cell? ⟨nb, 4, none⟩ = some (.pointer pa) ∧ w'.cell? ⟨nb, 5, none⟩ = some (.pointer pb)) (first | go_keep | (exact ⟨j0, j1⟩) | (exact ⟨y0, y1⟩)) (first | (go_at_call_of 32 (Value.pointer pa); refine (CA.out _ (below_drewN' (Below.refl _ _) 1)).mono ?_; rintro e w2 ⟨rfl, hb2⟩; have j0 := (hb2.cell (p := ⟨nb, 4, none⟩) hnb).trans c4; have j1 := (hb2.cell (p := ⟨nb, 5, none⟩) hnb).trans c5) | (go_at_call_of 32 (Value.pointer pb); refine (CB.out _ hb2).mono ?_; rintro e w3 ⟨rfl, hb3⟩; have y0 := (hb3.cell (p := ⟨nb, 4, none⟩) hnb).trans c4; have y1 := (hb3.cell (p := ⟨nb, 5, none⟩) hnb).trans c5))
      clear j0 j1 y0 y1 hb2 CA CB c4 c5
      have c0' := (hb3.cell (p := ⟨nb, 0, none⟩) hnb).trans c0
      go_wp2_with fail
      go_loopg [3, 24] L (fun gg v3 v24 wr => ∃ i : Nat, v3 = .int .i64 ((wa + wb + wrK k (is.take i) : Nat) : Int) ∧ v24 = .int .i64 i ∧ i ≤ L ∧ L - i ≤ gg ∧ Below w.heap.size w wr)
      case atStart => exact ⟨0, int_eqS (by rw [show wa + wb + wrK k (is.take 0) = wa + wb by simp [wrK], IntKind.wrap_i64]; omega), rfl, Nat.zero_le _, by omega, hb3⟩
      case round =>
        clear c0' hb3
        obtain ⟨i, rfl, rfl, hi, hgg, hbr⟩ := hrel
        have hK := wrK_take k is i
        rcases Nat.lt_or_ge i L with hlt | hge
        · have hz : (i : Int) < (L : Int) := by omega
          obtain rfl := HGI.out (by omega)
          obtain ⟨x, hx⟩ : ∃ x, is[i]? = some x := ⟨_, List.getElem?_eq_getElem (by rw [HL.out]; exact hlt)⟩
          obtain ⟨x0, x1⟩ := x
          have hgl : gi < w.heap.size := (World.ownsRow.lt HI.out gi rfl).2
          obtain ⟨d0, d1⟩ := own_item HI.out hx
          have d0' := (hbr.cell (p := ⟨gi, i * 2, none⟩) hgl).trans d0
          have d1' := (hbr.cell (p := ⟨gi, i * 2 + 1, none⟩) hgl).trans d1
          have e1 := (hbr.cell (p := ⟨nb, 1, none⟩) hnb).trans c1
          have hnbr : nb < wr.heap.size := Nat.lt_of_lt_of_le hnb hbr.size
          have HST := hid (wrK_step (k := k) hx)
          have HBR := hid hbr
          clear d0 d1 hx hbr
          generalize wrK k (is.take i) = W at *
          by_cases hk : x0 = k
          · have hkn : (x0 != k) = false := by simp [hk]
            go_wp2_with fail
            go_quiet (fail)
            go_wp2
            go_roundg (L - (i + 1))
            case measure => omega
            case rel => exact ⟨i + 1, int_eqS (by rw [HST.out]; simp [hk]), by go_num, by omega, Nat.le_refl _, below_drewN' (HBR.out.alloc HBR.out.size _) _⟩
          · have hkn : (x0 != k) = true := by simp [hk]
            go_wp2_with fail
            go_quiet (fail)
            go_wp2
            go_roundg (L - (i + 1))
            case measure => omega
            case rel => exact ⟨i + 1, int_eqS (by rw [HST.out]; simp [hk]; omega), by go_num, by omega, Nat.le_refl _, below_drewN' (HBR.out.alloc HBR.out.size _) _⟩
        · obtain rfl : i = L := by omega
          have hz : ¬ ((i : Int) < (i : Int)) := by omega
          have HBR := hid hbr
          clear hbr
          rw [List.take_of_length_le (by rw [HL.out]; exact Nat.le_refl _)]
          go_wp2
          go_ret
          exact ⟨rfl, HBR.out⟩
/-- How many items there are. -/
def manyS (ts : List SN) : Nat := (allS ts).length
def SN.cnt (t : SN) : Nat := t.all.length
theorem manyS_take {ts : List SN} {i : Nat} {t : SN} (e : ts[i]? = some t) : manyS (ts.take (i + 1)) = manyS (ts.take i) + t.cnt := by
  obtain ⟨hi, rfl⟩ := List.getElem?_eq_some_iff.1 e
  unfold manyS SN.cnt
  rw [List.take_succ_eq_append_getElem hi, allS_append, List.length_append]
  simp [allS]
theorem allS_take {ts : List SN} {i : Nat} {t : SN} (e : ts[i]? = some t) : (allS (ts.take (i + 1))).length = (allS (ts.take i)).length + t.all.length := by
  obtain ⟨hi, rfl⟩ := List.getElem?_eq_some_iff.1 e
  rw [List.take_succ_eq_append_getElem hi, allS_append, List.length_append]
  simp [allS]
theorem wrongS_take {ts : List SN} {i : Nat} {t : SN} (e : ts[i]? = some t) : wrongS (ts.take (i + 1)) = wrongS (ts.take i) + t.wrong := by
  obtain ⟨hi, rfl⟩ := List.getElem?_eq_some_iff.1 e
  unfold wrongS
  rw [List.take_succ_eq_append_getElem hi, List.map_append, List.sum_append_nat]
  simp
theorem allS_take_le (ts : List SN) (i : Nat) : (allS (ts.take i)).length ≤ (allS ts).length := by
  conv => rhs; rw [← List.take_append_drop i ts]
  rw [allS_append, List.length_append]; omega
theorem wrongS_all (ts : List SN) : wrongS ts ≤ (allS ts).length := by
  induction ts with
  | nil => exact Nat.le_refl _
  | cons t ts ih =>
    have e : wrongS (t :: ts) = t.wrong + wrongS ts := by simp [wrongS]
    rw [e, allS_cons, List.length_append]
    have := wrong_all t
    omega
theorem tree_le {ts : List SN} {i : Nat} {t : SN} (e : ts[i]? = some t) : t.all.length ≤ (allS ts).length := by
  rw [split_at ts i e, allS_append, allS_cons]
  simp only [List.length_append]
  omega
set_option maxHeartbeats 4000000 in
theorem many_heap {w : World} {hb r0 n : Nat} {ts : List SN} {f : List Nat} (hH : HAt w hb r0 n ts f) (hall : (allS ts).length ≤ 1000) (hlen : ts.length ≤ 1000) :
    Calls Tryd.prog 16 #[.pointer (some ⟨hb, 0, none⟩)] w fun e w' => e = .returned (.int .i64 (manyS ts : Nat)) ∧ Below w.heap.size w w' := by
  obtain ⟨tv, ps, fn, h1, h2, h3, h4⟩ := hH
  have hl := h3.len
  obtain ⟨p, cap, rfl⟩ := h2.form
  rw [hl] at h1 h2
  have hhb := h1.lt
  obtain ⟨_, _, q2⟩ := h1.cells
  have NODE : Hid (∀ i t, ts[i]? = some t → ∃ g q, p = some ⟨g, 0, none⟩ ∧ g < w.heap.size ∧ w.cell? ⟨g, i, none⟩ = some (.pointer q) ∧ ∀ w1, Below w.heap.size w w1 → Calls Tryd.prog 35 #[.pointer q] w1 fun e w' => e = .returned (.int .i64 (SN.cnt t : Nat)) ∧ Below w.heap.size w w') := by
    intro i t e
    obtain ⟨q, ft, fr, e1, e2, _⟩ := h3.at e
    have hi : i < ts.length := (List.getElem?_eq_some_iff.1 e).1
    obtain ⟨g, cap', e3, _⟩ := OwnE.some h2 hl (by omega)
    simp only [Value.slice.injEq] at e3
    obtain ⟨rfl, _, _⟩ := e3
    have hg : g < w.heap.size := own_lt h2 g (by simp [Value.ownBlock])
    refine ⟨g, q, rfl, hg, own_cell h2 e1, fun w1 hb1 => ?_⟩
    exact (many_any t.size t _ ft w1 (Nat.le_refl _) (e2.below hb1) (Nat.le_trans (tree_le e) hall)).mono fun e w' ⟨z1, z2, z3⟩ => ⟨z1, by rw [z3]; exact below_drewN' hb1 z2⟩
  obtain ⟨L, hL⟩ : ∃ L, ts.length = L := ⟨_, rfl⟩
  rw [hL] at q2 hlen
  have HL := hid hL
  have HALL := hid hall
  clear h1 h2 h3 h4 hl hall hL
  go_enter Tryd.func16, Tryd.ntmps16
  go_wp2_with fail
  go_loopg [3, 11] L (fun gg v3 v11 wr => ∃ i : Nat, v3 = .int .i64 (manyS (ts.take i) : Nat) ∧ v11 = .int .i64 i ∧ i ≤ L ∧ L - i ≤ gg ∧ Below w.heap.size w wr)
  case atStart => exact ⟨0, rfl, rfl, Nat.zero_le _, by omega, Below.refl _ w⟩
  case round =>
    obtain ⟨i, rfl, rfl, hi, hgg, hbr⟩ := hrel
    rcases Nat.lt_or_ge i L with hlt | hge
    · have hz : (i : Int) < (L : Int) := by omega
      obtain ⟨t, ht⟩ : ∃ t, ts[i]? = some t := ⟨_, List.getElem?_eq_getElem (by rw [HL.out]; exact hlt)⟩
      obtain ⟨g, q, rfl, hg, c1, ct⟩ := NODE.out i t ht
      have c1' := (hbr.cell (p := ⟨g, i, none⟩) hg).trans c1
      have CT := hid (ct wr hbr)
      have b1 : manyS (ts.take i) ≤ 1000 := by exact Nat.le_trans (allS_take_le ts i) HALL.out
      have b2 : SN.cnt t ≤ 1000 := by exact Nat.le_trans (tree_le ht) HALL.out
      have HST := hid (manyS_take ht)
      clear ct c1 ht hbr
      obtain ⟨A, hA⟩ : ∃ A, manyS (ts.take i) = A := ⟨_, rfl⟩
      obtain ⟨B, hB⟩ : ∃ B, SN.cnt t = B := ⟨_, rfl⟩
      rw [hA] at b1 HST ⊢
      rw [hB] at b2 HST CT
      clear hA hB
      go_wp2_with fail
      refine CT.out.mono ?_
      rintro e w2 ⟨rfl, hb2⟩
      have HB2 := hid hb2
      clear CT hb2
      go_wp2
      go_roundg (L - (i + 1))
      case measure => omega
      case rel => exact ⟨i + 1, by rw [HST.out]; go_num, by go_num, by omega, Nat.le_refl _, HB2.out⟩
    · obtain rfl : i = L := by omega
      have hz : ¬ ((i : Int) < (i : Int)) := by omega
      have HBR := hid hbr
      clear hbr
      rw [List.take_of_length_le (by rw [HL.out]; exact Nat.le_refl _)]
      go_wp2
      go_ret
      exact ⟨rfl, HBR.out⟩
set_option maxHeartbeats 4000000 in
theorem wrong_heap {w : World} {hb r0 n : Nat} {ts : List SN} {f : List Nat} (hH : HAt w hb r0 n ts f) (hall : (allS ts).length ≤ 1000) (hlen : ts.length ≤ 1000) :
    Calls Tryd.prog 11 #[.pointer (some ⟨hb, 0, none⟩)] w fun e w' => e = .returned (.int .i64 (wrongS ts : Nat)) ∧ Below w.heap.size w w' := by
  obtain ⟨tv, ps, fn, h1, h2, h3, h4⟩ := hH
  have hl := h3.len
  obtain ⟨p, cap, rfl⟩ := h2.form
  rw [hl] at h1 h2
  have hhb := h1.lt
  obtain ⟨_, _, q2⟩ := h1.cells
  have NODE : Hid (∀ i t, ts[i]? = some t → ∃ g q, p = some ⟨g, 0, none⟩ ∧ g < w.heap.size ∧ w.cell? ⟨g, i, none⟩ = some (.pointer q) ∧ ∀ w1, Below w.heap.size w w1 → Calls Tryd.prog 32 #[.pointer q] w1 fun e w' => e = .returned (.int .i64 (SN.wrong t : Nat)) ∧ Below w.heap.size w w') := by
    intro i t e
    obtain ⟨q, ft, fr, e1, e2, _⟩ := h3.at e
    have hi : i < ts.length := (List.getElem?_eq_some_iff.1 e).1
    obtain ⟨g, cap', e3, _⟩ := OwnE.some h2 hl (by omega)
    simp only [Value.slice.injEq] at e3
    obtain ⟨rfl, _, _⟩ := e3
    have hg : g < w.heap.size := own_lt h2 g (by simp [Value.ownBlock])
    refine ⟨g, q, rfl, hg, own_cell h2 e1, fun w1 hb1 => ?_⟩
    exact (wrong_any t.size t _ ft w1 (Nat.le_refl _) (e2.below hb1) (Nat.le_trans (tree_le e) hall)).mono fun e w' ⟨z1, z2⟩ => ⟨z1, hb1.trans (z2.mono hb1.size)⟩
  obtain ⟨L, hL⟩ : ∃ L, ts.length = L := ⟨_, rfl⟩
  rw [hL] at q2 hlen
  have HL := hid hL
  have HALL := hid hall
  clear h1 h2 h3 h4 hl hall hL
  go_enter Tryd.func11, Tryd.ntmps11
  go_wp2_with fail
  go_loopg [3, 11] L (fun gg v3 v11 wr => ∃ i : Nat, v3 = .int .i64 (wrongS (ts.take i) : Nat) ∧ v11 = .int .i64 i ∧ i ≤ L ∧ L - i ≤ gg ∧ Below w.heap.size w wr)
  case atStart => exact ⟨0, rfl, rfl, Nat.zero_le _, by omega, Below.refl _ w⟩
  case round =>
    obtain ⟨i, rfl, rfl, hi, hgg, hbr⟩ := hrel
    rcases Nat.lt_or_ge i L with hlt | hge
    · have hz : (i : Int) < (L : Int) := by omega
      obtain ⟨t, ht⟩ : ∃ t, ts[i]? = some t := ⟨_, List.getElem?_eq_getElem (by rw [HL.out]; exact hlt)⟩
      obtain ⟨g, q, rfl, hg, c1, ct⟩ := NODE.out i t ht
      have c1' := (hbr.cell (p := ⟨g, i, none⟩) hg).trans c1
      have CT := hid (ct wr hbr)
      have b1 : wrongS (ts.take i) ≤ 1000 := by exact Nat.le_trans (wrongS_all _) (Nat.le_trans (allS_take_le ts i) HALL.out)
      have b2 : SN.wrong t ≤ 1000 := by exact Nat.le_trans (wrong_all t) (Nat.le_trans (tree_le ht) HALL.out)
      have HST := hid (wrongS_take ht)
      clear ct c1 ht hbr
      obtain ⟨A, hA⟩ : ∃ A, wrongS (ts.take i) = A := ⟨_, rfl⟩
      obtain ⟨B, hB⟩ : ∃ B, SN.wrong t = B := ⟨_, rfl⟩
      rw [hA] at b1 HST ⊢
      rw [hB] at b2 HST CT
      clear hA hB
      go_wp2_with fail
      refine CT.out.mono ?_
      rintro e w2 ⟨rfl, hb2⟩
      have HB2 := hid hb2
      clear CT hb2
      go_wp2
      go_roundg (L - (i + 1))
      case measure => omega
      case rel => exact ⟨i + 1, by rw [HST.out]; go_num, by go_num, by omega, Nat.le_refl _, HB2.out⟩
    · obtain rfl : i = L := by omega
      have hz : ¬ ((i : Int) < (i : Int)) := by omega
      have HBR := hid hbr
      clear hbr
      rw [List.take_of_length_le (by rw [HL.out]; exact Nat.le_refl _)]
      go_wp2
      go_ret
      exact ⟨rfl, HBR.out⟩
end Go.Proofs.YtdpfijhkbhmkgaaDoor
