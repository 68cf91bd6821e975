/-
  Package soft: New, what Push refuses, least.
-/
import Derived.Test.YtdpfijhkbhmkgaaDoorSoP
namespace Go.Proofs.YtdpfijhkbhmkgaaDoor
open Go.RowKit Go.Sort Go.Proofs Go.Lib

set_option maxHeartbeats 4000000 in
set_option maxRecDepth 100000 in
theorem new_good {w : World} {r0 : Nat} (h : r0 ≤ 8) :
    Calls Tryd.prog 7 #[.int .i64 (r0 : Int)] w fun e w' => ∃ hb, e = .returned (.tuple #[.pointer (some ⟨hb, 0, none⟩), .nilIface]) ∧ HAt w' hb r0 0 [] [hb] ∧ w.heap.size ≤ hb ∧ Below w.heap.size w w' := by
  have h1 : ¬ ((r0 : Int) < 0) := by omega
  have h2 : ¬ ((8 : Int) < (r0 : Int)) := by omega
  have hg := heap_alloc_new w (.cells #[.int .i64 (r0 : Int), .int .i64 0, .slice none 0 0] 60)
  have HG := hid hg
  clear hg
  go_enter Tryd.func7, Tryd.ntmps7
  go_wp2
  go_ret2
  exact ⟨_, rfl, ⟨.slice none 0 0, [], [], HG.out, OwnE.nil EP _ 0, ⟨rfl, rfl⟩, List.Perm.refl _⟩, Nat.le_refl _, (Below.refl _ w).alloc (Nat.le_refl _) _⟩
set_option maxHeartbeats 4000000 in
theorem new_bad {w : World} {r : Int} (h : r < 0 ∨ 8 < r) :
    Calls Tryd.prog 7 #[.int .i64 r] w fun e w' => e = .returned (.tuple #[.pointer none, .iface 57 (.int .i64 1)]) ∧ w' = w := by
  rcases h with h1 | h1
  · go_enter Tryd.func7, Tryd.ntmps7
    go_wp2
    go_ret2
    exact ⟨rfl, rfl⟩
  · have h2 : ¬ (r < 0) := by omega
    go_enter Tryd.func7, Tryd.ntmps7
    go_wp2
    go_ret2
    exact ⟨rfl, rfl⟩
/-- What Push says of an item. -/
def wrongS1 (n : Nat) (x0 x1 : Int) : Nat := if wrong #[(x0, x1)] = 0 then (if n < 400 then 0 else 4) else wrong #[(x0, x1)]
set_option maxHeartbeats 4000000 in
set_option maxRecDepth 100000 in
theorem push_bad {w : World} {hb r0 n : Nat} {ts : List SN} {f : List Nat} {x0 x1 : Int} (hH : HAt w hb r0 n ts f) (hn : n ≤ 400) (hx : wrongS1 n x0 x1 ≠ 0) :
    Calls Tryd.prog 8 #[.pointer (some ⟨hb, 0, none⟩), .agg #[.int .i64 x0, .int .i64 x1]] w fun e w' => e = .returned (errV (wrongS1 n x0 x1)) ∧ Below w.heap.size w w' := by
  have chk : ∀ w1 : World, Calls Tryd.prog 23 #[.slice (some ⟨w1.heap.size, 0, none⟩) 1 1] (w1.alloc (.cells #[.int .i64 x0, .int .i64 x1] 30)) fun e w' => e = .returned (errV (wrong #[(x0, x1)])) ∧ Below w1.heap.size w1 w' :=
    fun w1 => (check_any _ #[(x0, x1)] _ (Sl.of_rd (cap := 1) (rd_one w1 x0 x1) (by simp)) (by simp)).mono fun e w' ⟨a, b⟩ => ⟨a, ((Below.refl _ _).alloc (Nat.le_refl _) _).trans (b.mono (by simp))⟩
  have CHK : Hid (Calls Tryd.prog 23 #[.slice (some ⟨w.heap.size + 1, 0, none⟩) 1 1] ((w.alloc (.cells #[.int .i64 x0, .int .i64 x1] 30)).alloc (.cells #[.int .i64 x0, .int .i64 x1] 30)) fun e w' => e = .returned (errV (wrong #[(x0, x1)])) ∧ Below w.heap.size w w') := by
    have := chk (w.alloc (.cells #[.int .i64 x0, .int .i64 x1] 30))
    rw [show (w.alloc (.cells #[.int .i64 x0, .int .i64 x1] 30)).heap.size = w.heap.size + 1 by simp] at this
    exact this.mono fun e w' ⟨a, b⟩ => ⟨a, ((Below.refl _ w).alloc (Nat.le_refl _) _).trans (b.mono (by omega))⟩
  obtain ⟨tv, ps, fn, h1, h2, h3, h4⟩ := hH
  have H1 := hid h1
  clear chk h1 h2 h3 h4
  by_cases e0 : wrong #[(x0, x1)] = 0
  · have e1 : n = 400 := by
      unfold wrongS1 at hx
      rw [if_pos e0] at hx
      by_cases q : n < 400
      · rw [if_pos q] at hx; exact absurd rfl hx
      · omega
    subst e1
    have e2 : errV (wrongS1 400 x0 x1) = .iface 57 (.int .i64 4) := by unfold wrongS1; rw [if_pos e0, if_neg (by omega)]; rfl
    rw [e2]
    rw [show errV (wrong #[(x0, x1)]) = Value.nilIface by rw [e0]; rfl] at CHK
    clear e2 e0 hx hn
    go_enter Tryd.func8, Tryd.ntmps8
    go_wp2_with fail
    refine CHK.out.mono ?_
    rintro e w2 ⟨rfl, hb2⟩
    obtain ⟨_, q1, _⟩ := (H1.out.kept (hb2.block hb H1.out.lt)).cells
    have HB2 := hid hb2
    clear hb2 CHK
    go_wp2
    go_ret
    exact ⟨rfl, HB2.out⟩
  · have e2 : wrongS1 n x0 x1 = wrong #[(x0, x1)] := by unfold wrongS1; rw [if_neg e0]
    rw [e2]
    obtain ⟨k, hk⟩ : ∃ k, wrong #[(x0, x1)] = k := ⟨_, rfl⟩
    rw [hk] at CHK ⊢
    have e3 : errV k = .iface 57 (.int .i64 (k : Int)) := by unfold errV; rw [if_neg (by rw [← hk]; exact e0)]
    rw [e3] at CHK ⊢
    clear e3 e2 e0 hk hx hn
    go_enter Tryd.func8, Tryd.ntmps8
    go_wp2_with fail
    refine CHK.out.mono ?_
    rintro e w2 ⟨rfl, hb2⟩
    have HB2 := hid hb2
    clear hb2 CHK
    go_wp2
    go_ret
    exact ⟨rfl, HB2.out⟩
/-- What is read of the trees. -/
theorem heads_of {w : World} {g L cap : Nat} : ∀ {ts : List SN} {ps : List (Option Addr)} {fn : List Nat}, TsAt w ts ps fn → OwnE EP w 0 (.slice (some ⟨g, 0, none⟩) L cap) ps → (∀ t ∈ ts, t.none? = false) →
    ∀ i t, ts[i]? = some t → ∃ nb, ps[i]? = some (some ⟨nb, 0, none⟩) ∧ w.cell? ⟨g, i, none⟩ = some (.pointer (some ⟨nb, 0, none⟩)) ∧ w.cell? ⟨nb, 1, none⟩ = some (.int .i64 t.key) := by
  intro ts ps fn h ho hs i t e
  obtain ⟨p, ft, fr, e1, e2, _⟩ := h.at e
  obtain ⟨k, r, m, is, a, b, rfl⟩ := node_of (hs t (List.mem_of_getElem? e))
  obtain ⟨nb, _, _, _, _, _, _, ep, hN, _⟩ := nd_node.1 e2
  obtain rfl : p = some ⟨nb, 0, none⟩ := by simpa using ep
  obtain ⟨cur, rest, _, _, hg, _, _, _, ht⟩ := ho.rest
  refine ⟨nb, e1, ?_, hN.cells.2.1⟩
  have hl := lie_block (w := w) (b := g) (pre := []) (cs := EP.flat ps) (post := rest) hg (by rw [ht]; rfl) i (.pointer (some ⟨nb, 0, none⟩)) ?_
  · simpa using hl
  · have hi : i < ps.length := (List.getElem?_eq_some_iff.1 e1).1
    have hx : ps[i] = some ⟨nb, 0, none⟩ := (List.getElem?_eq_some_iff.1 e1).2
    have := EP.flat_get ps i hi 0 (by decide)
    rw [hx] at this
    have e3 : i * EP.K + 0 = i := by show i * 1 + 0 = i; omega
    rw [e3] at this
    exact this
theorem atS_in (ts : List SN) (i L : Nat) (hi : i ≤ L) (hL : 0 < L) : atS ts i < L := by
  rcases Nat.eq_zero_or_pos i with q | q
  · subst q; exact hL
  · have := atS_lt ts i q; omega
set_option maxHeartbeats 4000000 in
theorem least_any {w : World} {hb r0 n g L cap : Nat} {ts : List SN} (hH : HB w hb r0 n (.slice (some ⟨g, 0, none⟩) L cap)) (hl : ts.length = L) (hL : 0 < L) (hL2 : L ≤ 1000) (hh : ∀ i t, ts[i]? = some t → ∃ nb, w.cell? ⟨g, i, none⟩ = some (.pointer (some ⟨nb, 0, none⟩)) ∧ w.cell? ⟨nb, 1, none⟩ = some (.int .i64 t.key)) :
    Calls Tryd.prog 27 #[.pointer (some ⟨hb, 0, none⟩)] w fun e w' => e = .returned (.int .i64 (atS ts L : Nat)) ∧ ∃ q, w' = w.drewN q := by
  obtain ⟨_, _, q2⟩ := hH.cells
  have HL := hid hl
  have HH := hid hh
  clear hH hl hh
  go_enter Tryd.func27, Tryd.ntmps27
  go_wp2_with fail
  go_loopg [3, 11] L (fun gg v3 v11 wr => ∃ i q : Nat, v3 = .int .i64 (atS ts i : Nat) ∧ v11 = .int .i64 i ∧ i ≤ L ∧ L - i ≤ gg ∧ wr = w.drewN q)
  case atStart => exact ⟨0, 0, rfl, rfl, Nat.zero_le _, by omega, rfl⟩
  case round =>
    obtain ⟨i, q, rfl, rfl, hi, hgg, rfl⟩ := hrel
    rcases Nat.lt_or_ge i L with hlt | hge
    · have hz : (i : Int) < (L : Int) := by omega
      have hA := atS_in ts i L hi hL
      obtain ⟨ti, hti⟩ : ∃ t, ts[i]? = some t := ⟨_, List.getElem?_eq_getElem (by rw [HL.out]; exact hlt)⟩
      obtain ⟨ta, hta⟩ : ∃ t, ts[atS ts i]? = some t := ⟨_, List.getElem?_eq_getElem (by rw [HL.out]; exact hA)⟩
      obtain ⟨nb, c1, c2⟩ := HH.out i ti hti
      obtain ⟨nb', c3, c4⟩ := HH.out (atS ts i) ta hta
      obtain ⟨ki, hki⟩ : ∃ ki, ti.key = ki := ⟨_, rfl⟩
      obtain ⟨ka, hka⟩ : ∃ ka, ta.key = ka := ⟨_, rfl⟩
      have hst : Hid (atS ts (i + 1) = if ki < ka then i else atS ts i) := by
        show _ = _
        simp only [atS]
        rw [hti, hta]
        show (if ti.key < ta.key then i else atS ts i) = _
        rw [hki, hka]
      rw [hki] at c2
      rw [hka] at c4
      clear hki hka hti hta
      obtain ⟨A, hAA⟩ : ∃ A, atS ts i = A := ⟨_, rfl⟩
      rw [hAA] at hst hA c3 ⊢
      have hAz : (A : Int) < (L : Int) := by omega
      clear hAA
      by_cases hk : ki < ka
      · go_wp2_with fail
        go_quiet (fail)
        go_wp2
        go_roundg (L - (i + 1))
        case measure => omega
        case rel => exact ⟨i + 1, _, by rw [hst.out, if_pos hk], by go_num, by omega, Nat.le_refl _, rfl⟩
      · go_wp2_with fail
        go_quiet (fail)
        go_wp2
        go_roundg (L - (i + 1))
        case measure => omega
        case rel => exact ⟨i + 1, _, by rw [hst.out, if_neg (by omega)], by go_num, by omega, Nat.le_refl _, rfl⟩
    · obtain rfl : i = L := by omega
      have hz : ¬ ((i : Int) < (i : Int)) := by omega
      go_wp2
      go_ret
      exact ⟨rfl, q, rfl⟩
#print axioms push_bad
#print axioms least_any
end Go.Proofs.YtdpfijhkbhmkgaaDoor
