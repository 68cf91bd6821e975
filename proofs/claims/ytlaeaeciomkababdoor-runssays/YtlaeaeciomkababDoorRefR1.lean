/-
  The document's runs: in, Numbers; no numbers sorted; its comparison of lists of lists.
-/
import Derived.Test.YtlaeaeciomkababDoorRnZ
import Derived.Test.YtlaeaeciomkababDoorRefZ
import Derived.Test.YtlaeaeciomkababDoorAppE
import Derived.BigQuiet
namespace Go.Proofs.YtlaeaeciomkababDoor
open Go.RowKit Go.Sort Go.Proofs

theorem in_z (n : Int) (w : World) : Calls Tryd.prog 29 #[.int .i64 n, .int .i64 (-1000000), .int .i64 1000000] w fun e w' => e = .returned (.bool (!outZ n)) ∧ w' = w := by
  unfold outZ
  by_cases h1 : n < -1000000
  · have h2 : decide (n < -1000000) = true := decide_eq_true h1
    have h3 : ¬ (-1000000 ≤ n) := by omega
    rw [h2, Bool.true_or]
    go_enter Tryd.func29, Tryd.ntmps29
    go_wp2
    go_ret
    exact ⟨rfl, rfl⟩
  · have h2 : decide (n < -1000000) = false := decide_eq_false h1
    have h3 : -1000000 ≤ n := by omega
    rw [h2, Bool.false_or]
    by_cases h4 : 1000000 < n
    · have h5 : decide (1000000 < n) = true := decide_eq_true h4
      have h6 : ¬ n ≤ 1000000 := by omega
      rw [h5]
      go_enter Tryd.func29, Tryd.ntmps29
      go_wp2
      go_ret
      exact ⟨rfl, rfl⟩
    · have h5 : decide (1000000 < n) = false := decide_eq_false h4
      have h6 : n ≤ 1000000 := by omega
      rw [h5]
      go_enter Tryd.func29, Tryd.ntmps29
      go_wp2
      go_ret
      exact ⟨rfl, rfl⟩
theorem wrongN_full {l : List Int} (h : 60 < l.length) : wrongN l = 4 := by unfold wrongN; rw [if_pos h]
theorem wrongN_range {l : List Int} (h : l.length ≤ 60) {i : Nat} {x : Int} (hi : l[i]? = some x) (hx : outZ x = true) : wrongN l = 1 := by
  unfold wrongN
  rw [if_neg (by omega), if_pos (anyZ_true hi hx)]
theorem wrongN_ok {l : List Int} (h : l.length ≤ 60) (hl : ∀ (i : Nat) (x : Int), l[i]? = some x → outZ x = false) : wrongN l = 0 := by
  unfold wrongN
  rw [if_neg (by omega), anyZ_false hl]; rfl
set_option maxHeartbeats 4000000 in
theorem numbers_any (v : Value) (l : List Int) (w : World) (h : SlE EZ w v l) (hsz : l.length ≤ 9223372036854775807) :
    Calls Tryd.prog 14 #[v] w fun e w' => e = .returned (.int .i64 (wrongN l)) ∧ w' = w := by
  obtain ⟨p, cap, rfl, _⟩ := id h
  obtain ⟨n, hn⟩ : ∃ n, l.length = n := ⟨_, rfl⟩
  rw [hn] at h hsz ⊢
  have HL := hidp h
  have HN := hidp hn
  clear h hn
  by_cases hbig : 60 < n
  · have hz : (60 : Int) < (n : Int) := by omega
    have HF : Hid (wrongN l = 4) := by show _ = _; exact wrongN_full (by rw [HN.out]; exact hbig)
    go_enter Tryd.func14, Tryd.ntmps14
    go_wp2
    go_ret
    exact ⟨by rw [HF.out]; rfl, rfl⟩
  · have hz : ¬ (60 : Int) < (n : Int) := by omega
    go_enter Tryd.func14, Tryd.ntmps14
    go_wp2
    go_loopg [3] n (fun g vi wr => ∃ (i : Nat), vi = .int .i64 i ∧ i + g = n ∧ w = wr ∧ Hid (∀ (j : Nat) (x : Int), j < i → l[j]? = some x → outZ x = false))
    case atStart => exact ⟨0, rfl, by omega, rfl, (show Hid _ from fun j x hj => by omega)⟩
    case round =>
      obtain ⟨i, rfl, hg, hw, HO⟩ := hrel
      subst hw
      by_cases hlt : i < n
      · have hlz : (i : Int) < (n : Int) := by omega
        obtain ⟨x, hx⟩ : ∃ x, l[i]? = some x := ⟨_, List.getElem?_eq_getElem (by have := HN.out; omega)⟩
        obtain ⟨b1, o1, rfl, _, _, hr1⟩ := HL.out.some (by omega)
        have c0 := hr1.int hx
        have HX := hidp hx
        have C := in_z x w
        generalize hr' : outZ x = r at C
        have HR := hidp hr'
        have HC := hidp C
        clear hx hr1 hr' C
        cases r
        · go_wp2_with (go_at_call 29; refine HC.out.mono ?_; rintro e w' ⟨rfl, rfl⟩)
          go_roundg (n - (i + 1))
          case measure => omega
          case rel =>
            refine ⟨i + 1, by go_num, by omega, rfl, (show Hid _ from fun j y hj hy => ?_)⟩
            rcases Nat.lt_or_ge j i with z | z
            · exact HO.out j y z hy
            · obtain rfl : j = i := by omega
              rw [HX.out] at hy; cases hy; exact HR.out
        · have HF : Hid (wrongN l = 1) := by show _ = _; exact wrongN_range (by have := HN.out; omega) HX.out HR.out
          go_wp2_with (go_at_call 29; refine HC.out.mono ?_; rintro e w' ⟨rfl, rfl⟩)
          go_ret
          exact ⟨by rw [HF.out]; rfl, rfl⟩
      · have hlz : ¬ (i : Int) < (n : Int) := by omega
        have HF : Hid (wrongN l = 0) := by
          show _ = _
          exact wrongN_ok (by have := HN.out; omega) fun j x hj => HO.out j x (by have := HN.out; have := (List.getElem?_eq_some_iff.1 hj).1; omega) hj
        go_wp2
        go_ret
        exact ⟨by rw [HF.out]; rfl, rfl⟩
#print axioms numbers_any

set_option maxHeartbeats 4000000 in
set_option maxRecDepth 100000 in
/-- No numbers, sorted, are none. -/
theorem ints_none (v : Value) (w : World) (h : SlE EZ w v []) :
    Calls Tryd.prog 33 #[v] w fun e w' => ∃ u, e = .returned u ∧ SlE EZ w' u [] ∧ Below w.heap.size w w' := by
  obtain ⟨p, cap, rfl, _⟩ := id h
  have CS := hidp (refSort_any (.slice none 0 0) #[] w (Sl.nil' w (by simp)) (by simp))
  clear h
  go_enter Tryd.func33, Tryd.ntmps33
  go_wp2_with fail
  go_loopg [3, 4] 0 (fun gg v3 v4 wr => v3 = .slice none 0 0 ∧ v4 = .int .i64 0 ∧ w = wr)
  case atStart => exact ⟨rfl, rfl, rfl⟩
  case round =>
    obtain ⟨rfl, rfl, hw⟩ := hrel
    subst hw
    go_wp2_with fail
    refine CS.out.mono ?_
    rintro e w2 ⟨u, rfl, os, o2, hs2, hb2⟩
    have e0 : os = [] := by
      have h1 := hs2.size
      have h2 : os.toArray.size = os.length := by simp
      have h3 : (#[] : Array (Int × Int)).size = 0 := rfl
      exact List.eq_nil_of_length_eq_zero (by omega)
    subst e0
    obtain ⟨p2, c2, rfl, _⟩ := o2.sl
    have HB2 := hidp hb2
    clear hs2 o2 hb2 CS
    go_wp2
    go_loopg [5, 6] 0 (fun g2 v5 v6 wr2 => v5 = .slice none 0 0 ∧ v6 = .int .i64 0 ∧ w2 = wr2)
    case atStart => exact ⟨rfl, rfl, rfl⟩
    case round =>
      obtain ⟨rfl, rfl, hw⟩ := hrel
      subst hw
      go_wp2
      go_ret
      exact ⟨_, rfl, SlE.empty _ _ _, HB2.out⟩
#print axioms ints_none

set_option maxHeartbeats 8000000 in
theorem sameR_any {w : World} {va vb : Value} {xs ys : List (List Int)} (ha : LLAt w va xs) (hb : LLAt w vb ys) (hbig : xs.length ≤ 9223372036854775807) (hbig2 : ∀ l ∈ xs, l.length ≤ 9223372036854775807) :
    Calls Tryd.prog 18 #[va, vb] w fun e w' => e = .returned (.bool (decide (xs = ys))) ∧ ∃ q, w' = w.drewN q := by
  obtain ⟨pa, ca, rfl⟩ := ha.form
  obtain ⟨pb, cb, rfl⟩ := hb.form
  by_cases hl : xs.length = ys.length
  · obtain ⟨n, hn⟩ : ∃ n, xs.length = n := ⟨_, rfl⟩
    rw [hn] at ha hl hbig ⊢
    rw [← hl] at hb ⊢
    have HA := hidp ha
    have HB := hidp hb
    have HN := hidp hn
    have HL := hidp hl
    have HB2 := hidp hbig2
    have hnn : ((n : Int) != (n : Int)) = false := by simp
    clear ha hb hn hl hbig2
    go_enter Tryd.func18, Tryd.ntmps18
    go_wp2
    go_loopg [5] n (fun g vi wr => ∃ i : Nat, vi = .int .i64 i ∧ i + g = n ∧ Hid (∃ q, wr = w.drewN q) ∧ Hid (∀ j, j < i → xs[j]? = ys[j]?))
    case atStart => exact ⟨0, rfl, by omega, (show Hid _ from ⟨0, rfl⟩), (show Hid _ from fun j hj => by omega)⟩
    case round =>
      obtain ⟨i, rfl, hg, HW, HO⟩ := hrel
      by_cases hlt : i < n
      · have hlz : (i : Int) < (n : Int) := by omega
        obtain ⟨x, hx⟩ : ∃ x, xs[i]? = some x := ⟨_, List.getElem?_eq_getElem (by have := HN.out; omega)⟩
        obtain ⟨y, hy⟩ : ∃ y, ys[i]? = some y := ⟨_, List.getElem?_eq_getElem (by have := HL.out; omega)⟩
        obtain ⟨b1, o1, q1, k1, rfl, _, c0', hs1⟩ := HA.out.row hx
        obtain ⟨b2, o2, q2, k2, rfl, _, c1', hs2⟩ := HB.out.row hy
        have c0 : wr.cell? ⟨b1, o1 + i, none⟩ = some (.slice q1 x.length k1) := by obtain ⟨q, hq⟩ := HW.out; rw [hq]; exact c0'
        have c1 : wr.cell? ⟨b2, o2 + i, none⟩ = some (.slice q2 y.length k2) := by obtain ⟨q, hq⟩ := HW.out; rw [hq]; exact c1'
        have HX := hidp hx
        have HY := hidp hy
        have HC : Hid (∀ m, Calls Tryd.prog 7 #[.slice q1 x.length k1, .slice q2 y.length k2] (wr.drewN m) fun e w' => e = .returned (.bool (decide (x = y))) ∧ ∃ q, w' = (wr.drewN m).drewN q) := by
          refine fun m => sameI_any ?_ ?_ (HB2.out x (List.mem_of_getElem? hx))
          · obtain ⟨q, hq⟩ := HW.out; rw [hq]; exact hs1
          · obtain ⟨q, hq⟩ := HW.out; rw [hq]; exact hs2
        clear hx hy hs1 hs2 c0' c1'
        by_cases hxy : x = y
        · have hd : decide (x = y) = true := decide_eq_true hxy
          rw [hd] at HC
          have HXY := hidp hxy
          clear hd hxy
          generalize x.length = lx at c0 HC
          generalize y.length = ly at c1 HC
          go_wp2_with fail
          go_quiet (first | (go_at_call 7; exact Calls.quiet_of (HC.out _)))
          go_wp2
          go_roundg (n - (i + 1))
          case measure => omega
          case rel =>
            refine ⟨i + 1, by go_num, by omega, (show Hid _ from (by obtain ⟨q, hq⟩ := HW.out; exact ⟨_, by rw [hq, World.drewN_drewN]⟩)), (show Hid _ from fun j hj => ?_)⟩
            rcases Nat.lt_or_ge j i with z | z
            · exact HO.out j z
            · obtain rfl : j = i := by omega
              rw [HX.out, HY.out, HXY.out]
        · have hd : decide (x = y) = false := decide_eq_false hxy
          have HF : Hid (decide (xs = ys) = false) := decide_eq_false fun e => hxy (by have h1 := HX.out; rw [e, HY.out] at h1; exact (Option.some.inj h1).symm)
          rw [hd] at HC
          clear hd hxy
          generalize x.length = lx at c0 HC
          generalize y.length = ly at c1 HC
          go_wp2_with fail
          go_quiet (first | (go_at_call 7; exact Calls.quiet_of (HC.out _)))
          go_wp2
          go_ret
          obtain ⟨q, hq⟩ := HW.out
          exact ⟨by rw [HF.out]; rfl, _, by rw [hq, World.drewN_drewN]⟩
      · have hlz : ¬ (i : Int) < (n : Int) := by omega
        have HT : Hid (decide (xs = ys) = true) := decide_eq_true (List.ext_getElem? fun j => by
          rcases Nat.lt_or_ge j i with z | z
          · exact HO.out j z
          · rw [List.getElem?_eq_none (by have := HN.out; omega), List.getElem?_eq_none (by have := HL.out; omega)])
        go_wp2
        go_ret
        obtain ⟨q, hq⟩ := HW.out
        exact ⟨by rw [HT.out]; rfl, _, hq⟩
  · have HF : Hid (decide (xs = ys) = false) := decide_eq_false fun e => hl (by rw [e])
    have hd : ((xs.length : Int) != (ys.length : Int)) = true := bne_iff_ne.2 (by omega)
    clear ha hb hbig2
    go_enter Tryd.func18, Tryd.ntmps18
    go_wp2
    go_ret
    exact ⟨by rw [HF.out]; rfl, 0, rfl⟩
#print axioms sameR_any
end Go.Proofs.YtlaeaeciomkababDoor
