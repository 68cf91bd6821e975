/-
  The law SoftFew, walked: a soft heap is wrong about few. (Written by wip/gen/softfew.py.)
-/
import Derived.Test.YtmgfinephghmaaaSoY
namespace Go.Proofs.Ytmgfinephghmaaa
open Go.RowKit Go.Sort Go.Proofs Go.Lib

/-- What is read of a list of items at a place. -/
theorem Sl.item {w : World} {p : Option Addr} {n cap : Nat} {xs : Array (Int × Int)} (h : Sl w (.slice p n cap) xs) : ∀ i, i < n → ∃ blk off x0 x1, p = some ⟨blk, off, none⟩ ∧ blk < w.heap.size ∧ w.cell? ⟨blk, off + i * 2, none⟩ = some (.int .i64 x0) ∧ w.cell? ⟨blk, off + i * 2 + 1, none⟩ = some (.int .i64 x1) ∧ xs[i]? = some (x0, x1) := by
  obtain ⟨p', cap', e, _, h⟩ := h
  simp only [Value.slice.injEq] at e
  obtain ⟨rfl, rfl, rfl⟩ := e
  intro i hi
  rcases h with h | ⟨blk, off, rfl, h1, h2⟩
  · omega
  · obtain ⟨c0, c1⟩ := h2 i hi
    exact ⟨blk, off, _, _, rfl, h1, c0, c1, by rw [getElem!_pos xs i hi]; exact Array.getElem?_eq_getElem hi⟩
set_option maxHeartbeats 4000000 in
theorem softFew_bad (rk : Int) (v : Value) (w : World) (h : rk < 0 ∨ 8 < rk) : Calls Try.prog 4 #[.int .i64 rk, v] w fun e w' => e = .returned (.bool true) ∧ Below w.heap.size w w' := by
  have c0 := softFact_any w
  go_enter Try.func4, Try.ntmps4
  go_wp2_with fail
  refine c0.mono ?_
  rintro e w1 ⟨rfl, hb1⟩
  clear c0
  go_wp2_with fail
  refine (new_bad h).mono ?_
  rintro e w2 ⟨rfl, rfl⟩
  clear h
  go_wp2
  go_ret
  exact ⟨rfl, hb1⟩
set_option maxHeartbeats 4000000 in
theorem softFew_low (r0 : Nat) (v : Value) (w : World) (h : r0 < 5) : Calls Try.prog 4 #[.int .i64 (r0 : Int), v] w fun e w' => e = .returned (.bool true) ∧ Below w.heap.size w w' := by
  have c0 := softFact_any w
  have hz : (r0 : Int) < 5 := by omega
  go_enter Try.func4, Try.ntmps4
  go_wp2_with fail
  refine c0.mono ?_
  rintro e w1 ⟨rfl, hb1⟩
  clear c0
  go_wp2_with fail
  refine (sh_new (w := w1) (r0 := r0) (by omega)).mono ?_
  rintro e w2 ⟨hb, rfl, _, hb2⟩
  have HB : Hid (Below w.heap.size w w2) := hb1.trans (hb2.mono hb1.size)
  clear hb1 hb2
  go_wp2
  go_ret
  exact ⟨rfl, HB.out⟩
set_option maxHeartbeats 8000000 in
set_option maxRecDepth 4000 in
theorem softFew_5 (p : Option Addr) (n cap : Nat) (xs : Array (Int × Int)) (w : World) (h : Sl w (.slice p n cap) xs) : Calls Try.prog 4 #[.int .i64 5, .slice p n cap] w fun e w' => e = .returned (.bool true) ∧ Below w.heap.size w w' := by
  have HX : Hid (∀ w1, Below w.heap.size w w1 → ∀ i, i < n → ∃ blk off x0 x1, p = some ⟨blk, off, none⟩ ∧ w1.cell? ⟨blk, off + i * 2, none⟩ = some (.int .i64 x0) ∧ w1.cell? ⟨blk, off + i * 2 + 1, none⟩ = some (.int .i64 x1)) := fun w1 hb1 i hi => by
    obtain ⟨blk, off, x0, x1, q1, q2, q3, q4, _⟩ := h.item i hi
    exact ⟨blk, off, x0, x1, q1, (hb1.cell (p := ⟨blk, off + i * 2, none⟩) q2).trans q3, (hb1.cell (p := ⟨blk, off + i * 2 + 1, none⟩) q2).trans q4⟩
  have c0 := softFact_any w
  clear h
  go_enter Try.func4, Try.ntmps4
  go_wp2_with fail
  refine c0.mono ?_
  rintro e w1 ⟨rfl, hb1⟩
  clear c0
  go_wp2_with fail
  refine (sh_new (w := w1) (r0 := 5) (by omega)).mono ?_
  rintro e w2 ⟨hb, rfl, h2, hb2⟩
  have HB : Hid (Below w.heap.size w w2) := hb1.trans (hb2.mono hb1.size)
  have H2 := hid h2
  have HBB : Hid (w.heap.size ≤ w1.heap.size) := hb1.size
  have hsz : w1.heap.size ≤ w2.heap.size := hb2.size
  clear hb1 hb2 h2
  go_wp2_with fail
  go_loopg [8, 9] 900 (fun gg v8 v9 wr => ∃ (i N : Nat) (ts : List SN) (f : List Nat), v8 = .int .i64 N ∧ v9 = .int .i64 i ∧ i ≤ 900 ∧ 900 - i ≤ gg ∧ SH wr w1.heap.size hb 5 N ts f ∧ Below w.heap.size w wr ∧ w1.heap.size ≤ wr.heap.size)
  case atStart => exact ⟨0, 0, [], _, rfl, rfl, by omega, by omega, H2.out, HB.out, hsz⟩
  case round =>
    clear H2 HB
    obtain ⟨i, N, ts, f, rfl, rfl, hi, hgg, h2, hbr, hsr⟩ := hrel
    rcases Nat.lt_or_ge i n with hlt | hge
    · have hz : (i : Int) < (n : Int) := by omega
      rcases Nat.lt_or_ge i 900 with h9 | h9
      · have hz9 : (i : Int) < 900 := by omega
        obtain ⟨blk, off, x0, x1, rfl, c0, c1⟩ := HX.out wr hbr i hlt
        have HR := hid h2
        have HBR := hid hbr
        clear h2 hbr
        by_cases h7 : x1 = 7
        · by_cases hne : ts = []
          · subst hne
            go_wp2_with fail
            refine (sh_none HR.out).mono ?_
            rintro e w2 ⟨rfl, h2, hb2⟩
            have H2 := hid h2
            have HB2 : Hid (Below w.heap.size w w2) := HBR.out.trans (hb2.mono HBR.out.size)
            have hs2 : w1.heap.size ≤ w2.heap.size := Nat.le_trans hsr hb2.size
            clear h2 hb2 HR HBR
            obtain ⟨W, hW⟩ : ∃ W, wrongS ([]) = W := ⟨_, rfl⟩
            have few : W * 1 ≤ N := by
              have := H2.out.good.few (by decide) (by decide) H2.out.most
              rw [hW] at this
              exact this
            have w400 : W ≤ 400 := by
              have h1 := wrongS_all ([])
              have h2 := H2.out.many
              have h3 := H2.out.most
              omega
            have n400 : N ≤ 400 := H2.out.most
            have hWr := sh_wrong H2.out
            rw [hW] at hWr
            have HWr := hid hWr
            clear hWr hW H2
            go_wp2_with fail
            refine HWr.out.mono ?_
            rintro e w3 ⟨rfl, h3, hb3'⟩
            have H3 := hid h3
            have HB3 : Hid (Below w.heap.size w w3) := HB2.out.trans (hb3'.mono HB2.out.size)
            have hs3 : w1.heap.size ≤ w3.heap.size := Nat.le_trans hs2 hb3'.size
            clear h3 hb3' HWr HB2
            have f1 : ¬ ((W : Int) < 0) := by omega
            have f2 : ¬ ((400 : Int) < (W : Int)) := by omega
            have f3 : ¬ ((N : Int) < (W : Int) * 1) := by omega
            go_wp2
            go_roundg (900 - (i + 1))
            case measure => omega
            case rel => exact ⟨i + 1, N, [], _, rfl, by go_num, by omega, Nat.le_refl _, H3.out, HB3.out, hs3⟩

          · obtain ⟨k, r, m, y0, y1, is, a, b, _, _, _, _, _, cp⟩ := sh_pop HR.out hsr hne
            have CP := hid cp
            clear cp
            go_wp2_with fail
            refine CP.out.mono ?_
            rintro e w2 ⟨rfl, f2, h2, s2⟩
            have H2 := hid h2
            have HB2 : Hid (Below w.heap.size w w2) := HBR.out.trans ((HR.out.step hsr s2).mono HBB.out)
            have hs2 : w1.heap.size ≤ w2.heap.size := Nat.le_trans hsr s2.chg.size
            clear h2 s2 HR HBR CP
            obtain ⟨W, hW⟩ : ∃ W, wrongS (popS ts) = W := ⟨_, rfl⟩
            have few : W * 1 ≤ N := by
              have := H2.out.good.few (by decide) (by decide) H2.out.most
              rw [hW] at this
              exact this
            have w400 : W ≤ 400 := by
              have h1 := wrongS_all (popS ts)
              have h2 := H2.out.many
              have h3 := H2.out.most
              omega
            have n400 : N ≤ 400 := H2.out.most
            have hWr := sh_wrong H2.out
            rw [hW] at hWr
            have HWr := hid hWr
            clear hWr hW H2
            go_wp2_with fail
            refine HWr.out.mono ?_
            rintro e w3 ⟨rfl, h3, hb3'⟩
            have H3 := hid h3
            have HB3 : Hid (Below w.heap.size w w3) := HB2.out.trans (hb3'.mono HB2.out.size)
            have hs3 : w1.heap.size ≤ w3.heap.size := Nat.le_trans hs2 hb3'.size
            clear h3 hb3' HWr HB2
            have f1 : ¬ ((W : Int) < 0) := by omega
            have f2 : ¬ ((400 : Int) < (W : Int)) := by omega
            have f3 : ¬ ((N : Int) < (W : Int) * 1) := by omega
            go_wp2
            go_roundg (900 - (i + 1))
            case measure => omega
            case rel => exact ⟨i + 1, N, popS ts, _, rfl, by go_num, by omega, Nat.le_refl _, H3.out, HB3.out, hs3⟩

        · by_cases hx : wrongS1 N x0 x1 = 0
          · have CP := hid (sh_push HR.out hsr hx)
            go_wp2_with fail
            refine CP.out.mono ?_
            rintro e w2 ⟨rfl, f2, h2, s2⟩
            have H2 := hid h2
            have HB2 : Hid (Below w.heap.size w w2) := HBR.out.trans ((HR.out.step hsr s2).mono HBB.out)
            have hs2 : w1.heap.size ≤ w2.heap.size := Nat.le_trans hsr s2.chg.size
            clear h2 s2 HR HBR CP hx
            obtain ⟨W, hW⟩ : ∃ W, wrongS (pushS 5 (x0, x1) ts) = W := ⟨_, rfl⟩
            have few : W * 1 ≤ (N + 1) := by
              have := H2.out.good.few (by decide) (by decide) H2.out.most
              rw [hW] at this
              exact this
            have w400 : W ≤ 400 := by
              have h1 := wrongS_all (pushS 5 (x0, x1) ts)
              have h2 := H2.out.many
              have h3 := H2.out.most
              omega
            have n400 : (N + 1) ≤ 400 := H2.out.most
            have hWr := sh_wrong H2.out
            rw [hW] at hWr
            have HWr := hid hWr
            clear hWr hW H2
            go_wp2_with fail
            refine HWr.out.mono ?_
            rintro e w3 ⟨rfl, h3, hb3'⟩
            have H3 := hid h3
            have HB3 : Hid (Below w.heap.size w w3) := HB2.out.trans (hb3'.mono HB2.out.size)
            have hs3 : w1.heap.size ≤ w3.heap.size := Nat.le_trans hs2 hb3'.size
            clear h3 hb3' HWr HB2
            have f1 : ¬ ((W : Int) < 0) := by omega
            have f2 : ¬ ((400 : Int) < (W : Int)) := by omega
            have f3 : ¬ (((N + 1) : Int) < (W : Int) * 1) := by omega
            go_wp2
            go_roundg (900 - (i + 1))
            case measure => omega
            case rel => exact ⟨i + 1, (N + 1), pushS 5 (x0, x1) ts, _, rfl, by go_num, by omega, Nat.le_refl _, H3.out, HB3.out, hs3⟩

          · have CP := hid (sh_full HR.out hx)
            obtain ⟨ev, hev⟩ : ∃ ev : Int, errV (wrongS1 N x0 x1) = .iface 37 (.int .i64 ev) := ⟨_, by unfold errV; rw [if_neg hx]⟩
            rw [hev] at CP
            clear hev hx
            go_wp2_with fail
            refine CP.out.mono ?_
            rintro e w2 ⟨rfl, h2, hb2⟩
            have H2 := hid h2
            have HB2 : Hid (Below w.heap.size w w2) := HBR.out.trans (hb2.mono HBR.out.size)
            have hs2 : w1.heap.size ≤ w2.heap.size := Nat.le_trans hsr hb2.size
            clear h2 hb2 HR HBR CP
            obtain ⟨W, hW⟩ : ∃ W, wrongS (ts) = W := ⟨_, rfl⟩
            have few : W * 1 ≤ N := by
              have := H2.out.good.few (by decide) (by decide) H2.out.most
              rw [hW] at this
              exact this
            have w400 : W ≤ 400 := by
              have h1 := wrongS_all (ts)
              have h2 := H2.out.many
              have h3 := H2.out.most
              omega
            have n400 : N ≤ 400 := H2.out.most
            have hWr := sh_wrong H2.out
            rw [hW] at hWr
            have HWr := hid hWr
            clear hWr hW H2
            go_wp2_with fail
            refine HWr.out.mono ?_
            rintro e w3 ⟨rfl, h3, hb3'⟩
            have H3 := hid h3
            have HB3 : Hid (Below w.heap.size w w3) := HB2.out.trans (hb3'.mono HB2.out.size)
            have hs3 : w1.heap.size ≤ w3.heap.size := Nat.le_trans hs2 hb3'.size
            clear h3 hb3' HWr HB2
            have f1 : ¬ ((W : Int) < 0) := by omega
            have f2 : ¬ ((400 : Int) < (W : Int)) := by omega
            have f3 : ¬ ((N : Int) < (W : Int) * 1) := by omega
            go_wp2
            go_roundg (900 - (i + 1))
            case measure => omega
            case rel => exact ⟨i + 1, N, ts, _, rfl, by go_num, by omega, Nat.le_refl _, H3.out, HB3.out, hs3⟩

      · have hz9 : ¬ ((i : Int) < 900) := by omega
        have HBR := hid hbr
        clear hbr h2
        go_wp2
        go_ret
        exact ⟨rfl, HBR.out⟩
    · have hz : ¬ ((i : Int) < (n : Int)) := by omega
      have HBR := hid hbr
      clear hbr h2
      go_wp2
      go_ret
      exact ⟨rfl, HBR.out⟩
set_option maxHeartbeats 8000000 in
set_option maxRecDepth 4000 in
theorem softFew_6 (p : Option Addr) (n cap : Nat) (xs : Array (Int × Int)) (w : World) (h : Sl w (.slice p n cap) xs) : Calls Try.prog 4 #[.int .i64 6, .slice p n cap] w fun e w' => e = .returned (.bool true) ∧ Below w.heap.size w w' := by
  have HX : Hid (∀ w1, Below w.heap.size w w1 → ∀ i, i < n → ∃ blk off x0 x1, p = some ⟨blk, off, none⟩ ∧ w1.cell? ⟨blk, off + i * 2, none⟩ = some (.int .i64 x0) ∧ w1.cell? ⟨blk, off + i * 2 + 1, none⟩ = some (.int .i64 x1)) := fun w1 hb1 i hi => by
    obtain ⟨blk, off, x0, x1, q1, q2, q3, q4, _⟩ := h.item i hi
    exact ⟨blk, off, x0, x1, q1, (hb1.cell (p := ⟨blk, off + i * 2, none⟩) q2).trans q3, (hb1.cell (p := ⟨blk, off + i * 2 + 1, none⟩) q2).trans q4⟩
  have c0 := softFact_any w
  clear h
  go_enter Try.func4, Try.ntmps4
  go_wp2_with fail
  refine c0.mono ?_
  rintro e w1 ⟨rfl, hb1⟩
  clear c0
  go_wp2_with fail
  refine (sh_new (w := w1) (r0 := 6) (by omega)).mono ?_
  rintro e w2 ⟨hb, rfl, h2, hb2⟩
  have HB : Hid (Below w.heap.size w w2) := hb1.trans (hb2.mono hb1.size)
  have H2 := hid h2
  have HBB : Hid (w.heap.size ≤ w1.heap.size) := hb1.size
  have hsz : w1.heap.size ≤ w2.heap.size := hb2.size
  clear hb1 hb2 h2
  go_wp2_with fail
  go_loopg [8, 9] 900 (fun gg v8 v9 wr => ∃ (i N : Nat) (ts : List SN) (f : List Nat), v8 = .int .i64 N ∧ v9 = .int .i64 i ∧ i ≤ 900 ∧ 900 - i ≤ gg ∧ SH wr w1.heap.size hb 6 N ts f ∧ Below w.heap.size w wr ∧ w1.heap.size ≤ wr.heap.size)
  case atStart => exact ⟨0, 0, [], _, rfl, rfl, by omega, by omega, H2.out, HB.out, hsz⟩
  case round =>
    clear H2 HB
    obtain ⟨i, N, ts, f, rfl, rfl, hi, hgg, h2, hbr, hsr⟩ := hrel
    rcases Nat.lt_or_ge i n with hlt | hge
    · have hz : (i : Int) < (n : Int) := by omega
      rcases Nat.lt_or_ge i 900 with h9 | h9
      · have hz9 : (i : Int) < 900 := by omega
        obtain ⟨blk, off, x0, x1, rfl, c0, c1⟩ := HX.out wr hbr i hlt
        have HR := hid h2
        have HBR := hid hbr
        clear h2 hbr
        by_cases h7 : x1 = 7
        · by_cases hne : ts = []
          · subst hne
            go_wp2_with fail
            refine (sh_none HR.out).mono ?_
            rintro e w2 ⟨rfl, h2, hb2⟩
            have H2 := hid h2
            have HB2 : Hid (Below w.heap.size w w2) := HBR.out.trans (hb2.mono HBR.out.size)
            have hs2 : w1.heap.size ≤ w2.heap.size := Nat.le_trans hsr hb2.size
            clear h2 hb2 HR HBR
            obtain ⟨W, hW⟩ : ∃ W, wrongS ([]) = W := ⟨_, rfl⟩
            have few : W * 2 ≤ N := by
              have := H2.out.good.few (by decide) (by decide) H2.out.most
              rw [hW] at this
              exact this
            have w400 : W ≤ 400 := by
              have h1 := wrongS_all ([])
              have h2 := H2.out.many
              have h3 := H2.out.most
              omega
            have n400 : N ≤ 400 := H2.out.most
            have hWr := sh_wrong H2.out
            rw [hW] at hWr
            have HWr := hid hWr
            clear hWr hW H2
            go_wp2_with fail
            refine HWr.out.mono ?_
            rintro e w3 ⟨rfl, h3, hb3'⟩
            have H3 := hid h3
            have HB3 : Hid (Below w.heap.size w w3) := HB2.out.trans (hb3'.mono HB2.out.size)
            have hs3 : w1.heap.size ≤ w3.heap.size := Nat.le_trans hs2 hb3'.size
            clear h3 hb3' HWr HB2
            have f1 : ¬ ((W : Int) < 0) := by omega
            have f2 : ¬ ((400 : Int) < (W : Int)) := by omega
            have f3 : ¬ ((N : Int) < (W : Int) * 2) := by omega
            go_wp2
            go_roundg (900 - (i + 1))
            case measure => omega
            case rel => exact ⟨i + 1, N, [], _, rfl, by go_num, by omega, Nat.le_refl _, H3.out, HB3.out, hs3⟩

          · obtain ⟨k, r, m, y0, y1, is, a, b, _, _, _, _, _, cp⟩ := sh_pop HR.out hsr hne
            have CP := hid cp
            clear cp
            go_wp2_with fail
            refine CP.out.mono ?_
            rintro e w2 ⟨rfl, f2, h2, s2⟩
            have H2 := hid h2
            have HB2 : Hid (Below w.heap.size w w2) := HBR.out.trans ((HR.out.step hsr s2).mono HBB.out)
            have hs2 : w1.heap.size ≤ w2.heap.size := Nat.le_trans hsr s2.chg.size
            clear h2 s2 HR HBR CP
            obtain ⟨W, hW⟩ : ∃ W, wrongS (popS ts) = W := ⟨_, rfl⟩
            have few : W * 2 ≤ N := by
              have := H2.out.good.few (by decide) (by decide) H2.out.most
              rw [hW] at this
              exact this
            have w400 : W ≤ 400 := by
              have h1 := wrongS_all (popS ts)
              have h2 := H2.out.many
              have h3 := H2.out.most
              omega
            have n400 : N ≤ 400 := H2.out.most
            have hWr := sh_wrong H2.out
            rw [hW] at hWr
            have HWr := hid hWr
            clear hWr hW H2
            go_wp2_with fail
            refine HWr.out.mono ?_
            rintro e w3 ⟨rfl, h3, hb3'⟩
            have H3 := hid h3
            have HB3 : Hid (Below w.heap.size w w3) := HB2.out.trans (hb3'.mono HB2.out.size)
            have hs3 : w1.heap.size ≤ w3.heap.size := Nat.le_trans hs2 hb3'.size
            clear h3 hb3' HWr HB2
            have f1 : ¬ ((W : Int) < 0) := by omega
            have f2 : ¬ ((400 : Int) < (W : Int)) := by omega
            have f3 : ¬ ((N : Int) < (W : Int) * 2) := by omega
            go_wp2
            go_roundg (900 - (i + 1))
            case measure => omega
            case rel => exact ⟨i + 1, N, popS ts, _, rfl, by go_num, by omega, Nat.le_refl _, H3.out, HB3.out, hs3⟩

        · by_cases hx : wrongS1 N x0 x1 = 0
          · have CP := hid (sh_push HR.out hsr hx)
            go_wp2_with fail
            refine CP.out.mono ?_
            rintro e w2 ⟨rfl, f2, h2, s2⟩
            have H2 := hid h2
            have HB2 : Hid (Below w.heap.size w w2) := HBR.out.trans ((HR.out.step hsr s2).mono HBB.out)
            have hs2 : w1.heap.size ≤ w2.heap.size := Nat.le_trans hsr s2.chg.size
            clear h2 s2 HR HBR CP hx
            obtain ⟨W, hW⟩ : ∃ W, wrongS (pushS 6 (x0, x1) ts) = W := ⟨_, rfl⟩
            have few : W * 2 ≤ (N + 1) := by
              have := H2.out.good.few (by decide) (by decide) H2.out.most
              rw [hW] at this
              exact this
            have w400 : W ≤ 400 := by
              have h1 := wrongS_all (pushS 6 (x0, x1) ts)
              have h2 := H2.out.many
              have h3 := H2.out.most
              omega
            have n400 : (N + 1) ≤ 400 := H2.out.most
            have hWr := sh_wrong H2.out
            rw [hW] at hWr
            have HWr := hid hWr
            clear hWr hW H2
            go_wp2_with fail
            refine HWr.out.mono ?_
            rintro e w3 ⟨rfl, h3, hb3'⟩
            have H3 := hid h3
            have HB3 : Hid (Below w.heap.size w w3) := HB2.out.trans (hb3'.mono HB2.out.size)
            have hs3 : w1.heap.size ≤ w3.heap.size := Nat.le_trans hs2 hb3'.size
            clear h3 hb3' HWr HB2
            have f1 : ¬ ((W : Int) < 0) := by omega
            have f2 : ¬ ((400 : Int) < (W : Int)) := by omega
            have f3 : ¬ (((N + 1) : Int) < (W : Int) * 2) := by omega
            go_wp2
            go_roundg (900 - (i + 1))
            case measure => omega
            case rel => exact ⟨i + 1, (N + 1), pushS 6 (x0, x1) ts, _, rfl, by go_num, by omega, Nat.le_refl _, H3.out, HB3.out, hs3⟩

          · have CP := hid (sh_full HR.out hx)
            obtain ⟨ev, hev⟩ : ∃ ev : Int, errV (wrongS1 N x0 x1) = .iface 37 (.int .i64 ev) := ⟨_, by unfold errV; rw [if_neg hx]⟩
            rw [hev] at CP
            clear hev hx
            go_wp2_with fail
            refine CP.out.mono ?_
            rintro e w2 ⟨rfl, h2, hb2⟩
            have H2 := hid h2
            have HB2 : Hid (Below w.heap.size w w2) := HBR.out.trans (hb2.mono HBR.out.size)
            have hs2 : w1.heap.size ≤ w2.heap.size := Nat.le_trans hsr hb2.size
            clear h2 hb2 HR HBR CP
            obtain ⟨W, hW⟩ : ∃ W, wrongS (ts) = W := ⟨_, rfl⟩
            have few : W * 2 ≤ N := by
              have := H2.out.good.few (by decide) (by decide) H2.out.most
              rw [hW] at this
              exact this
            have w400 : W ≤ 400 := by
              have h1 := wrongS_all (ts)
              have h2 := H2.out.many
              have h3 := H2.out.most
              omega
            have n400 : N ≤ 400 := H2.out.most
            have hWr := sh_wrong H2.out
            rw [hW] at hWr
            have HWr := hid hWr
            clear hWr hW H2
            go_wp2_with fail
            refine HWr.out.mono ?_
            rintro e w3 ⟨rfl, h3, hb3'⟩
            have H3 := hid h3
            have HB3 : Hid (Below w.heap.size w w3) := HB2.out.trans (hb3'.mono HB2.out.size)
            have hs3 : w1.heap.size ≤ w3.heap.size := Nat.le_trans hs2 hb3'.size
            clear h3 hb3' HWr HB2
            have f1 : ¬ ((W : Int) < 0) := by omega
            have f2 : ¬ ((400 : Int) < (W : Int)) := by omega
            have f3 : ¬ ((N : Int) < (W : Int) * 2) := by omega
            go_wp2
            go_roundg (900 - (i + 1))
            case measure => omega
            case rel => exact ⟨i + 1, N, ts, _, rfl, by go_num, by omega, Nat.le_refl _, H3.out, HB3.out, hs3⟩

      · have hz9 : ¬ ((i : Int) < 900) := by omega
        have HBR := hid hbr
        clear hbr h2
        go_wp2
        go_ret
        exact ⟨rfl, HBR.out⟩
    · have hz : ¬ ((i : Int) < (n : Int)) := by omega
      have HBR := hid hbr
      clear hbr h2
      go_wp2
      go_ret
      exact ⟨rfl, HBR.out⟩
set_option maxHeartbeats 8000000 in
set_option maxRecDepth 4000 in
theorem softFew_7 (p : Option Addr) (n cap : Nat) (xs : Array (Int × Int)) (w : World) (h : Sl w (.slice p n cap) xs) : Calls Try.prog 4 #[.int .i64 7, .slice p n cap] w fun e w' => e = .returned (.bool true) ∧ Below w.heap.size w w' := by
  have HX : Hid (∀ w1, Below w.heap.size w w1 → ∀ i, i < n → ∃ blk off x0 x1, p = some ⟨blk, off, none⟩ ∧ w1.cell? ⟨blk, off + i * 2, none⟩ = some (.int .i64 x0) ∧ w1.cell? ⟨blk, off + i * 2 + 1, none⟩ = some (.int .i64 x1)) := fun w1 hb1 i hi => by
    obtain ⟨blk, off, x0, x1, q1, q2, q3, q4, _⟩ := h.item i hi
    exact ⟨blk, off, x0, x1, q1, (hb1.cell (p := ⟨blk, off + i * 2, none⟩) q2).trans q3, (hb1.cell (p := ⟨blk, off + i * 2 + 1, none⟩) q2).trans q4⟩
  have c0 := softFact_any w
  clear h
  go_enter Try.func4, Try.ntmps4
  go_wp2_with fail
  refine c0.mono ?_
  rintro e w1 ⟨rfl, hb1⟩
  clear c0
  go_wp2_with fail
  refine (sh_new (w := w1) (r0 := 7) (by omega)).mono ?_
  rintro e w2 ⟨hb, rfl, h2, hb2⟩
  have HB : Hid (Below w.heap.size w w2) := hb1.trans (hb2.mono hb1.size)
  have H2 := hid h2
  have HBB : Hid (w.heap.size ≤ w1.heap.size) := hb1.size
  have hsz : w1.heap.size ≤ w2.heap.size := hb2.size
  clear hb1 hb2 h2
  go_wp2_with fail
  go_loopg [8, 9] 900 (fun gg v8 v9 wr => ∃ (i N : Nat) (ts : List SN) (f : List Nat), v8 = .int .i64 N ∧ v9 = .int .i64 i ∧ i ≤ 900 ∧ 900 - i ≤ gg ∧ SH wr w1.heap.size hb 7 N ts f ∧ Below w.heap.size w wr ∧ w1.heap.size ≤ wr.heap.size)
  case atStart => exact ⟨0, 0, [], _, rfl, rfl, by omega, by omega, H2.out, HB.out, hsz⟩
  case round =>
    clear H2 HB
    obtain ⟨i, N, ts, f, rfl, rfl, hi, hgg, h2, hbr, hsr⟩ := hrel
    rcases Nat.lt_or_ge i n with hlt | hge
    · have hz : (i : Int) < (n : Int) := by omega
      rcases Nat.lt_or_ge i 900 with h9 | h9
      · have hz9 : (i : Int) < 900 := by omega
        obtain ⟨blk, off, x0, x1, rfl, c0, c1⟩ := HX.out wr hbr i hlt
        have HR := hid h2
        have HBR := hid hbr
        clear h2 hbr
        by_cases h7 : x1 = 7
        · by_cases hne : ts = []
          · subst hne
            go_wp2_with fail
            refine (sh_none HR.out).mono ?_
            rintro e w2 ⟨rfl, h2, hb2⟩
            have H2 := hid h2
            have HB2 : Hid (Below w.heap.size w w2) := HBR.out.trans (hb2.mono HBR.out.size)
            have hs2 : w1.heap.size ≤ w2.heap.size := Nat.le_trans hsr hb2.size
            clear h2 hb2 HR HBR
            obtain ⟨W, hW⟩ : ∃ W, wrongS ([]) = W := ⟨_, rfl⟩
            have few : W * 4 ≤ N := by
              have := H2.out.good.few (by decide) (by decide) H2.out.most
              rw [hW] at this
              exact this
            have w400 : W ≤ 400 := by
              have h1 := wrongS_all ([])
              have h2 := H2.out.many
              have h3 := H2.out.most
              omega
            have n400 : N ≤ 400 := H2.out.most
            have hWr := sh_wrong H2.out
            rw [hW] at hWr
            have HWr := hid hWr
            clear hWr hW H2
            go_wp2_with fail
            refine HWr.out.mono ?_
            rintro e w3 ⟨rfl, h3, hb3'⟩
            have H3 := hid h3
            have HB3 : Hid (Below w.heap.size w w3) := HB2.out.trans (hb3'.mono HB2.out.size)
            have hs3 : w1.heap.size ≤ w3.heap.size := Nat.le_trans hs2 hb3'.size
            clear h3 hb3' HWr HB2
            have f1 : ¬ ((W : Int) < 0) := by omega
            have f2 : ¬ ((400 : Int) < (W : Int)) := by omega
            have f3 : ¬ ((N : Int) < (W : Int) * 4) := by omega
            go_wp2
            go_roundg (900 - (i + 1))
            case measure => omega
            case rel => exact ⟨i + 1, N, [], _, rfl, by go_num, by omega, Nat.le_refl _, H3.out, HB3.out, hs3⟩

          · obtain ⟨k, r, m, y0, y1, is, a, b, _, _, _, _, _, cp⟩ := sh_pop HR.out hsr hne
            have CP := hid cp
            clear cp
            go_wp2_with fail
            refine CP.out.mono ?_
            rintro e w2 ⟨rfl, f2, h2, s2⟩
            have H2 := hid h2
            have HB2 : Hid (Below w.heap.size w w2) := HBR.out.trans ((HR.out.step hsr s2).mono HBB.out)
            have hs2 : w1.heap.size ≤ w2.heap.size := Nat.le_trans hsr s2.chg.size
            clear h2 s2 HR HBR CP
            obtain ⟨W, hW⟩ : ∃ W, wrongS (popS ts) = W := ⟨_, rfl⟩
            have few : W * 4 ≤ N := by
              have := H2.out.good.few (by decide) (by decide) H2.out.most
              rw [hW] at this
              exact this
            have w400 : W ≤ 400 := by
              have h1 := wrongS_all (popS ts)
              have h2 := H2.out.many
              have h3 := H2.out.most
              omega
            have n400 : N ≤ 400 := H2.out.most
            have hWr := sh_wrong H2.out
            rw [hW] at hWr
            have HWr := hid hWr
            clear hWr hW H2
            go_wp2_with fail
            refine HWr.out.mono ?_
            rintro e w3 ⟨rfl, h3, hb3'⟩
            have H3 := hid h3
            have HB3 : Hid (Below w.heap.size w w3) := HB2.out.trans (hb3'.mono HB2.out.size)
            have hs3 : w1.heap.size ≤ w3.heap.size := Nat.le_trans hs2 hb3'.size
            clear h3 hb3' HWr HB2
            have f1 : ¬ ((W : Int) < 0) := by omega
            have f2 : ¬ ((400 : Int) < (W : Int)) := by omega
            have f3 : ¬ ((N : Int) < (W : Int) * 4) := by omega
            go_wp2
            go_roundg (900 - (i + 1))
            case measure => omega
            case rel => exact ⟨i + 1, N, popS ts, _, rfl, by go_num, by omega, Nat.le_refl _, H3.out, HB3.out, hs3⟩

        · by_cases hx : wrongS1 N x0 x1 = 0
          · have CP := hid (sh_push HR.out hsr hx)
            go_wp2_with fail
            refine CP.out.mono ?_
            rintro e w2 ⟨rfl, f2, h2, s2⟩
            have H2 := hid h2
            have HB2 : Hid (Below w.heap.size w w2) := HBR.out.trans ((HR.out.step hsr s2).mono HBB.out)
            have hs2 : w1.heap.size ≤ w2.heap.size := Nat.le_trans hsr s2.chg.size
            clear h2 s2 HR HBR CP hx
            obtain ⟨W, hW⟩ : ∃ W, wrongS (pushS 7 (x0, x1) ts) = W := ⟨_, rfl⟩
            have few : W * 4 ≤ (N + 1) := by
              have := H2.out.good.few (by decide) (by decide) H2.out.most
              rw [hW] at this
              exact this
            have w400 : W ≤ 400 := by
              have h1 := wrongS_all (pushS 7 (x0, x1) ts)
              have h2 := H2.out.many
              have h3 := H2.out.most
              omega
            have n400 : (N + 1) ≤ 400 := H2.out.most
            have hWr := sh_wrong H2.out
            rw [hW] at hWr
            have HWr := hid hWr
            clear hWr hW H2
            go_wp2_with fail
            refine HWr.out.mono ?_
            rintro e w3 ⟨rfl, h3, hb3'⟩
            have H3 := hid h3
            have HB3 : Hid (Below w.heap.size w w3) := HB2.out.trans (hb3'.mono HB2.out.size)
            have hs3 : w1.heap.size ≤ w3.heap.size := Nat.le_trans hs2 hb3'.size
            clear h3 hb3' HWr HB2
            have f1 : ¬ ((W : Int) < 0) := by omega
            have f2 : ¬ ((400 : Int) < (W : Int)) := by omega
            have f3 : ¬ (((N + 1) : Int) < (W : Int) * 4) := by omega
            go_wp2
            go_roundg (900 - (i + 1))
            case measure => omega
            case rel => exact ⟨i + 1, (N + 1), pushS 7 (x0, x1) ts, _, rfl, by go_num, by omega, Nat.le_refl _, H3.out, HB3.out, hs3⟩

          · have CP := hid (sh_full HR.out hx)
            obtain ⟨ev, hev⟩ : ∃ ev : Int, errV (wrongS1 N x0 x1) = .iface 37 (.int .i64 ev) := ⟨_, by unfold errV; rw [if_neg hx]⟩
            rw [hev] at CP
            clear hev hx
            go_wp2_with fail
            refine CP.out.mono ?_
            rintro e w2 ⟨rfl, h2, hb2⟩
            have H2 := hid h2
            have HB2 : Hid (Below w.heap.size w w2) := HBR.out.trans (hb2.mono HBR.out.size)
            have hs2 : w1.heap.size ≤ w2.heap.size := Nat.le_trans hsr hb2.size
            clear h2 hb2 HR HBR CP
            obtain ⟨W, hW⟩ : ∃ W, wrongS (ts) = W := ⟨_, rfl⟩
            have few : W * 4 ≤ N := by
              have := H2.out.good.few (by decide) (by decide) H2.out.most
              rw [hW] at this
              exact this
            have w400 : W ≤ 400 := by
              have h1 := wrongS_all (ts)
              have h2 := H2.out.many
              have h3 := H2.out.most
              omega
            have n400 : N ≤ 400 := H2.out.most
            have hWr := sh_wrong H2.out
            rw [hW] at hWr
            have HWr := hid hWr
            clear hWr hW H2
            go_wp2_with fail
            refine HWr.out.mono ?_
            rintro e w3 ⟨rfl, h3, hb3'⟩
            have H3 := hid h3
            have HB3 : Hid (Below w.heap.size w w3) := HB2.out.trans (hb3'.mono HB2.out.size)
            have hs3 : w1.heap.size ≤ w3.heap.size := Nat.le_trans hs2 hb3'.size
            clear h3 hb3' HWr HB2
            have f1 : ¬ ((W : Int) < 0) := by omega
            have f2 : ¬ ((400 : Int) < (W : Int)) := by omega
            have f3 : ¬ ((N : Int) < (W : Int) * 4) := by omega
            go_wp2
            go_roundg (900 - (i + 1))
            case measure => omega
            case rel => exact ⟨i + 1, N, ts, _, rfl, by go_num, by omega, Nat.le_refl _, H3.out, HB3.out, hs3⟩

      · have hz9 : ¬ ((i : Int) < 900) := by omega
        have HBR := hid hbr
        clear hbr h2
        go_wp2
        go_ret
        exact ⟨rfl, HBR.out⟩
    · have hz : ¬ ((i : Int) < (n : Int)) := by omega
      have HBR := hid hbr
      clear hbr h2
      go_wp2
      go_ret
      exact ⟨rfl, HBR.out⟩
set_option maxHeartbeats 8000000 in
set_option maxRecDepth 4000 in
theorem softFew_8 (p : Option Addr) (n cap : Nat) (xs : Array (Int × Int)) (w : World) (h : Sl w (.slice p n cap) xs) : Calls Try.prog 4 #[.int .i64 8, .slice p n cap] w fun e w' => e = .returned (.bool true) ∧ Below w.heap.size w w' := by
  have HX : Hid (∀ w1, Below w.heap.size w w1 → ∀ i, i < n → ∃ blk off x0 x1, p = some ⟨blk, off, none⟩ ∧ w1.cell? ⟨blk, off + i * 2, none⟩ = some (.int .i64 x0) ∧ w1.cell? ⟨blk, off + i * 2 + 1, none⟩ = some (.int .i64 x1)) := fun w1 hb1 i hi => by
    obtain ⟨blk, off, x0, x1, q1, q2, q3, q4, _⟩ := h.item i hi
    exact ⟨blk, off, x0, x1, q1, (hb1.cell (p := ⟨blk, off + i * 2, none⟩) q2).trans q3, (hb1.cell (p := ⟨blk, off + i * 2 + 1, none⟩) q2).trans q4⟩
  have c0 := softFact_any w
  clear h
  go_enter Try.func4, Try.ntmps4
  go_wp2_with fail
  refine c0.mono ?_
  rintro e w1 ⟨rfl, hb1⟩
  clear c0
  go_wp2_with fail
  refine (sh_new (w := w1) (r0 := 8) (by omega)).mono ?_
  rintro e w2 ⟨hb, rfl, h2, hb2⟩
  have HB : Hid (Below w.heap.size w w2) := hb1.trans (hb2.mono hb1.size)
  have H2 := hid h2
  have HBB : Hid (w.heap.size ≤ w1.heap.size) := hb1.size
  have hsz : w1.heap.size ≤ w2.heap.size := hb2.size
  clear hb1 hb2 h2
  go_wp2_with fail
  go_loopg [8, 9] 900 (fun gg v8 v9 wr => ∃ (i N : Nat) (ts : List SN) (f : List Nat), v8 = .int .i64 N ∧ v9 = .int .i64 i ∧ i ≤ 900 ∧ 900 - i ≤ gg ∧ SH wr w1.heap.size hb 8 N ts f ∧ Below w.heap.size w wr ∧ w1.heap.size ≤ wr.heap.size)
  case atStart => exact ⟨0, 0, [], _, rfl, rfl, by omega, by omega, H2.out, HB.out, hsz⟩
  case round =>
    clear H2 HB
    obtain ⟨i, N, ts, f, rfl, rfl, hi, hgg, h2, hbr, hsr⟩ := hrel
    rcases Nat.lt_or_ge i n with hlt | hge
    · have hz : (i : Int) < (n : Int) := by omega
      rcases Nat.lt_or_ge i 900 with h9 | h9
      · have hz9 : (i : Int) < 900 := by omega
        obtain ⟨blk, off, x0, x1, rfl, c0, c1⟩ := HX.out wr hbr i hlt
        have HR := hid h2
        have HBR := hid hbr
        clear h2 hbr
        by_cases h7 : x1 = 7
        · by_cases hne : ts = []
          · subst hne
            go_wp2_with fail
            refine (sh_none HR.out).mono ?_
            rintro e w2 ⟨rfl, h2, hb2⟩
            have H2 := hid h2
            have HB2 : Hid (Below w.heap.size w w2) := HBR.out.trans (hb2.mono HBR.out.size)
            have hs2 : w1.heap.size ≤ w2.heap.size := Nat.le_trans hsr hb2.size
            clear h2 hb2 HR HBR
            obtain ⟨W, hW⟩ : ∃ W, wrongS ([]) = W := ⟨_, rfl⟩
            have few : W * 8 ≤ N := by
              have := H2.out.good.few (by decide) (by decide) H2.out.most
              rw [hW] at this
              exact this
            have w400 : W ≤ 400 := by
              have h1 := wrongS_all ([])
              have h2 := H2.out.many
              have h3 := H2.out.most
              omega
            have n400 : N ≤ 400 := H2.out.most
            have hWr := sh_wrong H2.out
            rw [hW] at hWr
            have HWr := hid hWr
            clear hWr hW H2
            go_wp2_with fail
            refine HWr.out.mono ?_
            rintro e w3 ⟨rfl, h3, hb3'⟩
            have H3 := hid h3
            have HB3 : Hid (Below w.heap.size w w3) := HB2.out.trans (hb3'.mono HB2.out.size)
            have hs3 : w1.heap.size ≤ w3.heap.size := Nat.le_trans hs2 hb3'.size
            clear h3 hb3' HWr HB2
            have f1 : ¬ ((W : Int) < 0) := by omega
            have f2 : ¬ ((400 : Int) < (W : Int)) := by omega
            have f3 : ¬ ((N : Int) < (W : Int) * 8) := by omega
            go_wp2
            go_roundg (900 - (i + 1))
            case measure => omega
            case rel => exact ⟨i + 1, N, [], _, rfl, by go_num, by omega, Nat.le_refl _, H3.out, HB3.out, hs3⟩

          · obtain ⟨k, r, m, y0, y1, is, a, b, _, _, _, _, _, cp⟩ := sh_pop HR.out hsr hne
            have CP := hid cp
            clear cp
            go_wp2_with fail
            refine CP.out.mono ?_
            rintro e w2 ⟨rfl, f2, h2, s2⟩
            have H2 := hid h2
            have HB2 : Hid (Below w.heap.size w w2) := HBR.out.trans ((HR.out.step hsr s2).mono HBB.out)
            have hs2 : w1.heap.size ≤ w2.heap.size := Nat.le_trans hsr s2.chg.size
            clear h2 s2 HR HBR CP
            obtain ⟨W, hW⟩ : ∃ W, wrongS (popS ts) = W := ⟨_, rfl⟩
            have few : W * 8 ≤ N := by
              have := H2.out.good.few (by decide) (by decide) H2.out.most
              rw [hW] at this
              exact this
            have w400 : W ≤ 400 := by
              have h1 := wrongS_all (popS ts)
              have h2 := H2.out.many
              have h3 := H2.out.most
              omega
            have n400 : N ≤ 400 := H2.out.most
            have hWr := sh_wrong H2.out
            rw [hW] at hWr
            have HWr := hid hWr
            clear hWr hW H2
            go_wp2_with fail
            refine HWr.out.mono ?_
            rintro e w3 ⟨rfl, h3, hb3'⟩
            have H3 := hid h3
            have HB3 : Hid (Below w.heap.size w w3) := HB2.out.trans (hb3'.mono HB2.out.size)
            have hs3 : w1.heap.size ≤ w3.heap.size := Nat.le_trans hs2 hb3'.size
            clear h3 hb3' HWr HB2
            have f1 : ¬ ((W : Int) < 0) := by omega
            have f2 : ¬ ((400 : Int) < (W : Int)) := by omega
            have f3 : ¬ ((N : Int) < (W : Int) * 8) := by omega
            go_wp2
            go_roundg (900 - (i + 1))
            case measure => omega
            case rel => exact ⟨i + 1, N, popS ts, _, rfl, by go_num, by omega, Nat.le_refl _, H3.out, HB3.out, hs3⟩

        · by_cases hx : wrongS1 N x0 x1 = 0
          · have CP := hid (sh_push HR.out hsr hx)
            go_wp2_with fail
            refine CP.out.mono ?_
            rintro e w2 ⟨rfl, f2, h2, s2⟩
            have H2 := hid h2
            have HB2 : Hid (Below w.heap.size w w2) := HBR.out.trans ((HR.out.step hsr s2).mono HBB.out)
            have hs2 : w1.heap.size ≤ w2.heap.size := Nat.le_trans hsr s2.chg.size
            clear h2 s2 HR HBR CP hx
            obtain ⟨W, hW⟩ : ∃ W, wrongS (pushS 8 (x0, x1) ts) = W := ⟨_, rfl⟩
            have few : W * 8 ≤ (N + 1) := by
              have := H2.out.good.few (by decide) (by decide) H2.out.most
              rw [hW] at this
              exact this
            have w400 : W ≤ 400 := by
              have h1 := wrongS_all (pushS 8 (x0, x1) ts)
              have h2 := H2.out.many
              have h3 := H2.out.most
              omega
            have n400 : (N + 1) ≤ 400 := H2.out.most
            have hWr := sh_wrong H2.out
            rw [hW] at hWr
            have HWr := hid hWr
            clear hWr hW H2
            go_wp2_with fail
            refine HWr.out.mono ?_
            rintro e w3 ⟨rfl, h3, hb3'⟩
            have H3 := hid h3
            have HB3 : Hid (Below w.heap.size w w3) := HB2.out.trans (hb3'.mono HB2.out.size)
            have hs3 : w1.heap.size ≤ w3.heap.size := Nat.le_trans hs2 hb3'.size
            clear h3 hb3' HWr HB2
            have f1 : ¬ ((W : Int) < 0) := by omega
            have f2 : ¬ ((400 : Int) < (W : Int)) := by omega
            have f3 : ¬ (((N + 1) : Int) < (W : Int) * 8) := by omega
            go_wp2
            go_roundg (900 - (i + 1))
            case measure => omega
            case rel => exact ⟨i + 1, (N + 1), pushS 8 (x0, x1) ts, _, rfl, by go_num, by omega, Nat.le_refl _, H3.out, HB3.out, hs3⟩

          · have CP := hid (sh_full HR.out hx)
            obtain ⟨ev, hev⟩ : ∃ ev : Int, errV (wrongS1 N x0 x1) = .iface 37 (.int .i64 ev) := ⟨_, by unfold errV; rw [if_neg hx]⟩
            rw [hev] at CP
            clear hev hx
            go_wp2_with fail
            refine CP.out.mono ?_
            rintro e w2 ⟨rfl, h2, hb2⟩
            have H2 := hid h2
            have HB2 : Hid (Below w.heap.size w w2) := HBR.out.trans (hb2.mono HBR.out.size)
            have hs2 : w1.heap.size ≤ w2.heap.size := Nat.le_trans hsr hb2.size
            clear h2 hb2 HR HBR CP
            obtain ⟨W, hW⟩ : ∃ W, wrongS (ts) = W := ⟨_, rfl⟩
            have few : W * 8 ≤ N := by
              have := H2.out.good.few (by decide) (by decide) H2.out.most
              rw [hW] at this
              exact this
            have w400 : W ≤ 400 := by
              have h1 := wrongS_all (ts)
              have h2 := H2.out.many
              have h3 := H2.out.most
              omega
            have n400 : N ≤ 400 := H2.out.most
            have hWr := sh_wrong H2.out
            rw [hW] at hWr
            have HWr := hid hWr
            clear hWr hW H2
            go_wp2_with fail
            refine HWr.out.mono ?_
            rintro e w3 ⟨rfl, h3, hb3'⟩
            have H3 := hid h3
            have HB3 : Hid (Below w.heap.size w w3) := HB2.out.trans (hb3'.mono HB2.out.size)
            have hs3 : w1.heap.size ≤ w3.heap.size := Nat.le_trans hs2 hb3'.size
            clear h3 hb3' HWr HB2
            have f1 : ¬ ((W : Int) < 0) := by omega
            have f2 : ¬ ((400 : Int) < (W : Int)) := by omega
            have f3 : ¬ ((N : Int) < (W : Int) * 8) := by omega
            go_wp2
            go_roundg (900 - (i + 1))
            case measure => omega
            case rel => exact ⟨i + 1, N, ts, _, rfl, by go_num, by omega, Nat.le_refl _, H3.out, HB3.out, hs3⟩

      · have hz9 : ¬ ((i : Int) < 900) := by omega
        have HBR := hid hbr
        clear hbr h2
        go_wp2
        go_ret
        exact ⟨rfl, HBR.out⟩
    · have hz : ¬ ((i : Int) < (n : Int)) := by omega
      have HBR := hid hbr
      clear hbr h2
      go_wp2
      go_ret
      exact ⟨rfl, HBR.out⟩
theorem softFew_any (rk : Int) (v : Value) (xs : Array (Int × Int)) (w : World) (h : Sl w v xs) : Calls Try.prog 4 #[.int .i64 rk, v] w fun e w' => e = .returned (.bool true) ∧ Below w.heap.size w w' := by
  obtain ⟨p, cap, rfl, hc, hp⟩ := id h
  by_cases h1 : rk < 0 ∨ 8 < rk
  · exact softFew_bad rk _ w h1
  · obtain ⟨r0, rfl⟩ : ∃ r0 : Nat, rk = r0 := ⟨rk.toNat, by omega⟩
    by_cases h5 : r0 < 5
    · exact softFew_low r0 _ w h5
    · have h4 : r0 = 5 ∨ r0 = 6 ∨ r0 = 7 ∨ r0 = 8 := by omega
      rcases h4 with rfl | rfl | rfl | rfl
      · exact softFew_5 p _ cap xs w h
      · exact softFew_6 p _ cap xs w h
      · exact softFew_7 p _ cap xs w h
      · exact softFew_8 p _ cap xs w h
#print axioms softFew_any
end Go.Proofs.Ytmgfinephghmaaa
