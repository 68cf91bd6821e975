/-
  The law StreamMiddle, walked: half are below and half above.
-/
import Derived.Test.YtcjfbenbdjlodaaLawStF
namespace Go.Proofs.Ytcjfbenbdjlodaa
open Go.RowKit Go.Sort Go.Proofs

theorem less_succ {zs : List Int} {k : Nat} {x m : Int} (hx : zs[k]? = some x) : lessN (zs.take (k + 1)) m = lessN (zs.take k) m + (if x < m then 1 else 0) := by
  obtain ⟨hk, hv⟩ := List.getElem?_eq_some_iff.1 hx
  unfold lessN
  rw [List.take_succ_eq_append_getElem hk, hv, List.countP_append, List.countP_singleton]
  simp
theorem more_succ {zs : List Int} {k : Nat} {x m : Int} (hx : zs[k]? = some x) : moreN (zs.take (k + 1)) m = moreN (zs.take k) m + (if m < x then 1 else 0) := by
  obtain ⟨hk, hv⟩ := List.getElem?_eq_some_iff.1 hx
  unfold moreN
  rw [List.take_succ_eq_append_getElem hk, hv, List.countP_append, List.countP_singleton]
  simp
set_option maxHeartbeats 4000000 in
theorem middle_empty (p : Option Addr) (cap : Nat) (w : World) :
    Calls Try.prog 6 #[.slice p 0 cap] w fun e w' => e = .returned (.bool true) ∧ Below w.heap.size w w' := by
  have C0 := hidp (streamFact_any w)
  go_enter Try.func6, Try.ntmps6
  go_wp2_with fail
  refine C0.out.mono ?_
  rintro e w1 ⟨rfl, hb1⟩
  have C1 := hidp (ss_new (w := w1) (room := 3) (by omega) (by omega))
  have HB1 := hidp hb1
  clear hb1 C0
  go_wp2_with fail
  refine C1.out.mono ?_
  rintro e w2 ⟨sb, f, rfl, h1, h2, h3⟩
  have HB2 := hidp (HB1.out.trans (h3.mono HB1.out.size))
  clear h1 h2 h3 C1
  go_wp2
  refine wp_loop_rounds 1 ?_
  rw [rounds_succ]
  go_wp2
  go_ret
  exact ⟨rfl, HB2.out⟩
set_option maxHeartbeats 16000000 in
set_option maxRecDepth 100000 in
theorem middle_full (blk off n cap : Nat) (xs : List Int) (w : World) (hr : RdE EZ w blk off xs) (hn : xs.length = n) :
    Calls Try.prog 6 #[.slice (some ⟨blk, off, none⟩) n cap] w fun e w' => e = .returned (.bool true) ∧ Below w.heap.size w w' := by
  have C0 := hidp (streamFact_any w)
  have HR := hidp hr
  have HN := hidp hn
  clear hr hn
  go_enter Try.func6, Try.ntmps6
  go_wp2_with fail
  refine C0.out.mono ?_
  rintro e w1 ⟨rfl, hb1⟩
  have C1 := hidp (ss_new (w := w1) (room := 3) (by omega) (by omega))
  have HB1 := hidp hb1
  clear hb1 C0
  go_wp2_with fail
  refine C1.out.mono ?_
  rintro e w2 ⟨sb, f, rfl, h1, h2, h3⟩
  have HI := hidp (Beside.begin HB1.out h1 h2 h3)
  clear h1 h2 h3 C1 HB1
  go_wp2
  go_loopg [6, 7] 61 (fun gg v6 v7 wr => ∃ (i : Nat) (zs : List Int) (f : List Nat), v7 = .int .i64 i ∧ i + gg = 61 ∧ zs.length ≤ i ∧ i ≤ 60 ∧ Hid (Beside w sb 3 zs f v6 zs wr))
  case atStart => exact ⟨0, [], f, rfl, rfl, Nat.zero_le _, by omega, HI⟩
  case round =>
    obtain ⟨i, zs, f, rfl, hg, hzi, hi60, HB⟩ := hrel
    clear HI
    by_cases hlt : i < n ∧ i < 60
    · obtain ⟨hin, hi6⟩ := hlt
      have hiz : (i : Int) < (n : Int) := by omega
      have hiz2 : (i : Int) < 60 := by omega
      have hid0 : decide ((i : Int) < (n : Int)) = true := decide_eq_true hiz
      obtain ⟨c, hc⟩ : ∃ c, xs[i]? = some c := ⟨_, List.getElem?_eq_getElem (by rw [HN.out]; exact hin)⟩
      have HC := hidp hc
      have ca := HR.out.nums HB.out.below hc
      clear hc
      by_cases hbad : c < -1000000 ∨ 1000000 < c
      · have CP := hidp (put_bad (w := wr) (sb := sb) hbad)
        clear hbad
        go_wp2_with (go_at_call 18; refine CP.out.mono ?_; rintro e w' ⟨rfl, rfl⟩)
        go_roundg (61 - (i + 1))
        case measure => omega
        case rel => exact ⟨i + 1, zs, f, by go_num, by omega, by omega, by omega, HB⟩
      · have CP := hidp (HB.out.put (by omega) hbad)
        obtain ⟨p6, c6, e6⟩ := HB.out.own.form
        subst e6
        clear hbad
        go_wp2_with (first | (go_at_call 18; refine CP.out.mono ?_; rintro e w3 ⟨rfl, f3, k3⟩; have cb := HR.out.nums k3.below HC.out; have K3 := hidp k3; have HOA := hidp (k3.own.alloc (.cells #[.int .i64 c] 3)); have HNEW := hidp (new_num w3 c); have HLN : Hid (zs.length ≤ 100000) := (by show _ ≤ _; omega); clear k3) | (at_builtin; refine wpList_appendE EZ rfl (.tmp 39) (.tmp 44) rfl 0 _ zs c ⟨w3.heap.size, 0, none⟩ 1 rfl HOA.out rfl HNEW.out HLN.out (Nat.zero_le _) ?_; intro v1 w4 a1 a2 a3; obtain ⟨p1, n1, cp1, rfl⟩ := form3 a1; have hk4 := K3.out.app a1 a2 a3; have K4 := hidp hk4; have CM := hidp (ss_middle hk4.st (by simp)); clear a1 a2 a3 hk4) | (go_at_call 19; refine CM.out.mono ?_; rintro e w5 ⟨m, rfl, hm, rfl⟩; have HM := hidp hm; clear hm))
        obtain ⟨g, cap1, e1, _⟩ := num_some K4.out.own rfl (by simp)
        simp only [Value.slice.injEq] at e1
        obtain ⟨rfl, hn1, rfl⟩ := e1
        have hys : n1 ≤ 60 := by rw [hn1]; exact K4.out.st.few
        have hyi : n1 ≤ i + 1 := by rw [hn1, List.length_append]; simp; omega
        have hy0 : 0 < n1 := by rw [hn1, List.length_append]; simp
        clear ca cb CP K3 HOA HNEW HLN CM HB
        obtain ⟨ys, hY⟩ : ∃ ys, zs ++ [c] = ys := ⟨_, rfl⟩
        rw [hY] at K4 HM hn1
        have HY := hidp hn1.symm
        clear hY hn1 hzi
        go_loopg [10, 11, 12] n1 (fun g2 vb va vk wr2 => ∃ k b a : Nat, vk = .int .i64 k ∧ vb = .int .i64 b ∧ va = .int .i64 a ∧ k + g2 = n1 ∧ b ≤ k ∧ a ≤ k ∧ Hid (b = lessN (ys.take k) m) ∧ Hid (a = moreN (ys.take k) m) ∧ wr2 = w5)
        case atStart => exact ⟨0, 0, 0, rfl, rfl, rfl, by omega, Nat.le_refl _, Nat.le_refl _, rfl, rfl, rfl⟩
        case round =>
          obtain ⟨k, b, a, rfl, rfl, rfl, hkg, hbk, hak, HLb, HLa, rfl⟩ := hrel
          by_cases hkn : k < n1
          · have hkz : (k : Int) < (n1 : Int) := by omega
            obtain ⟨x, hx⟩ : ∃ x, ys[k]? = some x := ⟨_, List.getElem?_eq_getElem (by rw [HY.out]; exact hkn)⟩
            have cx := (K4.out.own.num hx).1
            have HS1 := hidp (less_succ (m := m) hx)
            have HS2 := hidp (more_succ (m := m) hx)
            clear hx
            rcases Int.lt_trichotomy x m with h1 | h1 | h1
            · have h2 : ¬ m < x := by omega
              rw [if_pos h1] at HS1
              rw [if_neg h2] at HS2
              go_wp2
              go_roundg (n1 - (k + 1))
              case measure => omega
              case rel => exact ⟨k + 1, b + 1, a, by go_num, by go_num, by go_num, by omega, by omega, by omega, by show _ = _; have q1 := HS1.out; have q2 := HLb.out; omega, by show _ = _; have q1 := HS2.out; have q2 := HLa.out; omega, rfl⟩
            · subst h1
              have h2 : ¬ x < x := by omega
              rw [if_neg h2] at HS1 HS2
              go_wp2
              go_roundg (n1 - (k + 1))
              case measure => omega
              case rel => exact ⟨k + 1, b, a, by go_num, by go_num, by go_num, by omega, by omega, by omega, by show _ = _; have q1 := HS1.out; have q2 := HLb.out; omega, by show _ = _; have q1 := HS2.out; have q2 := HLa.out; omega, rfl⟩
            · have h2 : ¬ x < m := by omega
              rw [if_neg h2] at HS1
              rw [if_pos h1] at HS2
              go_wp2
              go_roundg (n1 - (k + 1))
              case measure => omega
              case rel => exact ⟨k + 1, b, a + 1, by go_num, by go_num, by go_num, by omega, by omega, by omega, by show _ = _; have q1 := HS1.out; have q2 := HLb.out; omega, by show _ = _; have q1 := HS2.out; have q2 := HLa.out; omega, rfl⟩
          · obtain rfl : k = n1 := by omega
            have hkz : ¬ ((k : Int) < (k : Int)) := by omega
            have hbnd := mid_bounds HM.out (by rw [HY.out]; exact hy0)
            have e1 : b = lessN ys m := by have := HLb.out; rw [List.take_of_length_le (by rw [HY.out]; exact Nat.le_refl _)] at this; exact this
            have e2 : a = moreN ys m := by have := HLa.out; rw [List.take_of_length_le (by rw [HY.out]; exact Nat.le_refl _)] at this; exact this
            rw [← e1, ← e2, HY.out] at hbnd
            have z1 : ¬ ((k : Int) < 2 * (b : Int)) := by omega
            have z2 : ¬ ((k : Int) < 2 * (a : Int)) := by omega
            have z3 : ((b : Int) + (a : Int) == (k : Int)) = false := beq_eq_false_iff_ne.2 (by omega)
            have w1' : IntKind.i64.wrap (2 * (b : Int)) = 2 * (b : Int) := by rw [IntKind.wrap_i64]; omega
            have w2' : IntKind.i64.wrap (2 * (a : Int)) = 2 * (a : Int) := by rw [IntKind.wrap_i64]; omega
            have w3' : IntKind.i64.wrap ((b : Int) + (a : Int)) = (b : Int) + (a : Int) := by rw [IntKind.wrap_i64]; omega
            clear e1 e2 hbnd HLb HLa
            go_wp2
            go_roundg (61 - (i + 1))
            case measure => omega
            case rel => exact ⟨i + 1, ys, f3, by go_num, by omega, by rw [HY.out]; omega, by omega, by rw [show (Value.slice (some ⟨g, 0, none⟩) k cp1) = .slice (some ⟨g, 0, none⟩) k cp1 from rfl]; exact K4⟩
    · by_cases hin : i < n
      · obtain rfl : i = 60 := by omega
        have hiz : ((60 : Nat) : Int) < (n : Int) := by omega
        have hiz' : (60 : Int) < (n : Int) := by omega
        go_wp2
        go_ret
        exact ⟨rfl, HB.out.below⟩
      · have hiz : ¬ ((i : Int) < (n : Int)) := by omega
        go_wp2
        go_ret
        exact ⟨rfl, HB.out.below⟩
theorem streamMiddle_any (v : Value) (xs : List Int) (w : World) (h : SlE EZ w v xs) :
    Calls Try.prog 6 #[v] w fun e w' => e = .returned (.bool true) ∧ Below w.heap.size w w' := by
  obtain ⟨p, cap, rfl, hc, hp | ⟨blk, off, rfl, hr⟩⟩ := h
  · subst hp
    exact middle_empty p cap w
  · exact middle_full blk off _ cap xs w hr rfl
#print axioms streamMiddle_any
end Go.Proofs.Ytcjfbenbdjlodaa
