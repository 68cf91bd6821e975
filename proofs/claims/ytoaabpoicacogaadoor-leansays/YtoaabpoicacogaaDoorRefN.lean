/-
  The document's leaning heaps: what is wrong with one, and its spine.
-/
import Derived.Test.YtoaabpoicacogaaDoorElN
import Derived.Test.YtoaabpoicacogaaDoorLChk
namespace Go.Proofs.YtoaabpoicacogaaDoor
open Go.RowKit Go.Proofs

theorem inside_any (n lo hi : Int) (w : World) : Calls Tryd.prog 26 #[.int .i64 n, .int .i64 lo, .int .i64 hi] w fun e w' => e = .returned (.bool (decide (lo ≤ n) && decide (n ≤ hi))) ∧ w' = w := by
  by_cases h1 : lo ≤ n
  · by_cases h2 : n ≤ hi
    · rw [decide_eq_true h1, decide_eq_true h2]
      go_enter Tryd.func26, Tryd.ntmps26
      go_wp2
      go_ret
      exact ⟨rfl, rfl⟩
    · rw [decide_eq_true h1, decide_eq_false h2]
      go_enter Tryd.func26, Tryd.ntmps26
      go_wp2
      go_ret
      exact ⟨rfl, rfl⟩
  · rw [decide_eq_false h1, Bool.false_and]
    go_enter Tryd.func26, Tryd.ntmps26
    go_wp2
    go_ret
    exact ⟨rfl, rfl⟩
/-- A counter that holds one less than k. -/
def Down (k : Nat) (v : Value) : Prop := (k = 0 ∧ v = .int .i64 (-1)) ∨ ∃ m, k = m + 1 ∧ v = .int .i64 (m : Nat)
theorem down_sub (k : Nat) : Down k (.int .i64 ((k : Int) - 1)) := by
  cases k with
  | zero => exact Or.inl ⟨rfl, rfl⟩
  | succ m => exact Or.inr ⟨m, rfl, by congr 1; omega⟩
/-- The world of the second loop: the list, and the two rows of numbers. -/
structure Rows2 (w : World) (blk off g6 g7 : Nat) (l : List Nd) (sz sp : List Int) (wr : World) : Prop where
  rd : RdE EN wr blk off l
  w6 : WrE EZ wr g6 0 sz
  w7 : WrE EZ wr g7 0 sp
  below : Below w.heap.size w wr
  b6 : w.heap.size ≤ g6
  ne : g6 < g7
  lt : blk < w.heap.size
section
variable {w wr : World} {blk off g6 g7 : Nat} {l : List Nd} {sz sp : List Int}
theorem Rows2.drewN (h : Rows2 w blk off g6 g7 l sz sp wr) (n : Nat) : Rows2 w blk off g6 g7 l sz sp (wr.drewN n) :=
  ⟨h.rd, h.w6.drewN n, h.w7.drewN n, ⟨h.below.os, h.below.tape, h.below.output, h.below.size, h.below.block⟩, h.b6, h.ne, h.lt⟩
theorem set_gb (w : World) (p : Addr) (v : Value) : w.grownBy (w.setCell p v) (some p.block) :=
  ⟨rfl, rfl, rfl, by rw [size_cell]; exact Nat.le_refl _, fun k _ hr => heap_setCell_other w p k v (fun e => hr (by rw [e]))⟩
theorem Rows2.store (h : Rows2 w blk off g6 g7 l sz sp wr) {m : Nat} {y y' z z' : Int} (h6 : m < sz.length) (h7 : m < sp.length) (hy : y = y') (hz : z = z') :
    Rows2 w blk off g6 g7 l (sz.set m y') (sp.set m z') ((wr.setCell ⟨g6, m, none⟩ (.int .i64 y)).setCell ⟨g7, m, none⟩ (.int .i64 z)) := by
  subst hy; subst hz
  have e1 := set_gb wr ⟨g6, m, none⟩ (.int .i64 y)
  have e2 := set_gb (wr.setCell ⟨g6, m, none⟩ (.int .i64 y)) ⟨g7, m, none⟩ (.int .i64 z)
  have n1 := h.b6
  have n2 := h.ne
  have n3 := h.lt
  refine ⟨(h.rd.kept e1 (by simp; omega)).kept e2 (by simp; omega), (h.w6.setInt h6 y).kept e2 (by simp; omega), (h.w7.kept e1 (by simp; omega)).setInt h7 z, ?_, h.b6, h.ne, h.lt⟩
  exact (h.below.setCell (p := ⟨g6, m, none⟩) n1 _).setCell (p := ⟨g7, m, none⟩) (Nat.le_trans n1 (Nat.le_of_lt n2)) _
end
/-- From place k on each place has its tree, and its numbers. -/
def Found (l : List Nd) (k n : Nat) (sz sp : List Int) : Prop := ∀ j, k ≤ j → j < n → ∃ s, LT.SubAt l j s ∧ sz[j]? = some (s.size : Int) ∧ sp[j]? = some (s.spine : Int)
theorem Found.set {l : List Nd} {m n : Nat} {sz sp : List Int} {s : LT} (h : Found l (m + 1) n sz sp) (hs : LT.SubAt l m s) (h6 : m < sz.length) (h7 : m < sp.length) : Found l m n (sz.set m (s.size : Int)) (sp.set m (s.spine : Int)) := by
  intro j h1 h2
  rcases Nat.eq_or_lt_of_le h1 with rfl | h3
  · exact ⟨s, hs, by simp [h6], by simp [h7]⟩
  · obtain ⟨s', a, b, c⟩ := h j h3 h2
    exact ⟨s', a, by rw [List.getElem?_set_ne (by omega)]; exact b, by rw [List.getElem?_set_ne (by omega)]; exact c⟩

set_option maxHeartbeats 4000000 in
set_option maxRecDepth 4000 in
theorem lean_many (p : Option Addr) (n cap : Nat) (w : World) (h : 60 < n) (hbig : n ≤ 9223372036854775807) :
    Calls Tryd.prog 8 #[.slice p n cap] w fun e w' => e = .returned (.tuple #[.int .i64 4, .int .i64 0]) ∧ Below w.heap.size w w' := by
  have hz : (60 : Int) < (n : Int) := by omega
  go_enter Tryd.func8, Tryd.ntmps8
  go_wp2
  go_ret2
  exact ⟨rfl, Below.refl _ _⟩

theorem info_int : (Tryd.prog.info? 3).map (fun i => (i.zero, i.size, i.bytes)) = some (some (.int .i64 0), 1, 8) := by kernel_rfl
set_option maxHeartbeats 4000000 in
set_option maxRecDepth 4000 in
theorem lean_none (p : Option Addr) (cap : Nat) (w : World) :
    Calls Tryd.prog 8 #[.slice p 0 cap] w fun e w' => e = .returned (.tuple #[.int .i64 0, .int .i64 0]) ∧ Below w.heap.size w w' := by
  obtain ⟨i0, hi, hz0, hz1, hz2⟩ := info_parts info_int
  go_enter Tryd.func8, Tryd.ntmps8
  go_wp2
  go_loop [5] (fun i => i = .int .i64 0) (fun _ => 0)
  case atStart => rfl
  case round =>
    subst hrel
    go_wp2_with (first | (at_make; refine wpList_make_full _ rfl (.tmp 38) (.tmp 38) 55 rfl w.heap.size 3 i0 (.int .i64 0) 1 Tryd.underlying55 hi hz0 hz1 .i64 .i64 _ _ (1) rfl rfl rfl rfl (by rw [hz2]; omega) (by unfold maxLen; omega) (Nat.le_refl _) ?_; intro w1 ho1 hg1; have hb1 : Below w.heap.size w w1 := (Below.refl _ _).grown hg1 (Nat.le_refl _) (fun k e => by cases e); clear ho1 hg1) | (at_make; refine wpList_make_full _ rfl (.tmp 41) (.tmp 41) 55 rfl w1.heap.size 3 i0 (.int .i64 0) 1 Tryd.underlying55 hi hz0 hz1 .i64 .i64 _ _ (1) rfl rfl rfl rfl (by rw [hz2]; omega) (by unfold maxLen; omega) (Nat.le_refl _) ?_; intro w2 ho2 hg2; have hb2 : Below w.heap.size w w2 := hb1.grown hg2 hb1.size (fun k e => by cases e); obtain ⟨_, hw2⟩ := made_ints ho2 (by omega); obtain ⟨s0, _⟩ := hw2.int (i := 0) (k := 0) rfl; clear ho2 hg2))
    go_loop [8] (fun i => i = .int .i64 (-1)) (fun _ => 0)
    case atStart => rfl
    case round =>
      subst hrel
      go_wp2_with fail
      go_quiet (fail)
      go_wp2
      go_ret2
      exact ⟨rfl, ⟨hb2.os, hb2.tape, hb2.output, hb2.size, hb2.block⟩⟩

set_option maxHeartbeats 64000000 in
set_option maxRecDepth 4000 in
theorem lean_some (blk off n cap : Nat) (l : List Nd) (w : World) (hn0 : 0 < n) (h60 : n ≤ 60) (HN : Hid (l.length = n)) (HR : Hid (RdE EN w blk off l)) :
    Calls Tryd.prog 8 #[.slice (some ⟨blk, off, none⟩) n cap] w fun e w' => ∃ a b : Nat, e = .returned (.tuple #[.int .i64 a, .int .i64 b]) ∧ LT.Says l a b ∧ Below w.heap.size w w' := by
  have hz60 : ¬ (60 : Int) < (n : Int) := by omega
  have hnz : (0 : Int) < (n : Int) := by omega
  obtain ⟨i0, hi, hz0, hz1, hz2⟩ := info_parts info_int
  go_enter Tryd.func8, Tryd.ntmps8
  go_wp2
  go_loopg [5] n (fun gg vi wr => ∃ i : Nat, vi = .int .i64 i ∧ i + gg = n ∧ w = wr ∧ Hid (∀ j x, j < i → l[j]? = some x → LT.outN4 x = false))
  case atStart => exact ⟨0, rfl, by omega, rfl, (show ∀ j x, _ → _ → _ from fun j x h => absurd h (Nat.not_lt_zero _))⟩
  case round =>
    obtain ⟨i, rfl, hg, rfl, HO0⟩ := hrel
    by_cases hlt : i < n
    · have hlz : (i : Int) < (n : Int) := by omega
      obtain ⟨⟨k, d, L, R⟩, hx⟩ : ∃ x, l[i]? = some x := ⟨l[i]'(by rw [HN.out]; exact hlt), by simp⟩
      obtain ⟨c0, c1, c2, c3⟩ := HR.out.node hx
      have HX : Hid (l[i]? = some (k, d, L, R)) := hx
      clear hx
      have k1 := inside_any k (-1000000) 1000000 w
      have k2 := inside_any d 0 1000000 w
      by_cases h1 : -1000000 ≤ k ∧ k ≤ 1000000
      · rw [decide_eq_true h1.1, decide_eq_true h1.2] at k1
        by_cases h2 : 0 ≤ d ∧ d ≤ 1000000
        · rw [decide_eq_true h2.1, decide_eq_true h2.2] at k2
          have HO1 : Hid (∀ j x, j < i + 1 → l[j]? = some x → LT.outN4 x = false) := by
            intro j x h3 h4
            rcases Nat.lt_or_ge j i with q | q
            · exact HO0.out j x q h4
            · obtain rfl : j = i := by omega
              rw [HX.out] at h4
              cases h4
              exact decide_eq_false (by simp only; omega)
          clear h1 h2
          go_wp2_with fail
          refine k1.mono ?_
          rintro e w1 ⟨rfl, rfl⟩
          go_wp2_with fail
          refine k2.mono ?_
          rintro e w1 ⟨rfl, rfl⟩
          go_wp2
          go_roundg (n - (i + 1))
          case measure => omega
          case rel => exact ⟨i + 1, by go_num, by omega, rfl, HO1⟩
        · have e2 : (decide (0 ≤ d) && decide (d ≤ 1000000)) = false := by simpa using h2
          rw [e2] at k2
          have HOT : Hid (l.any LT.outN4 = true) := List.any_eq_true.2 ⟨_, List.mem_of_getElem? HX.out, decide_eq_true (by simp only; omega)⟩
          clear h1 h2 e2
          go_wp2_with fail
          refine k1.mono ?_
          rintro e w1 ⟨rfl, rfl⟩
          go_wp2_with fail
          refine k2.mono ?_
          rintro e w1 ⟨rfl, rfl⟩
          go_wp2
          go_ret2
          exact ⟨1, 0, rfl, .range (by rw [HN.out]; exact h60) HOT.out, Below.refl _ _⟩
      · have e1 : (decide (-1000000 ≤ k) && decide (k ≤ 1000000)) = false := by simpa using h1
        rw [e1] at k1
        have HOT : Hid (l.any LT.outN4 = true) := List.any_eq_true.2 ⟨_, List.mem_of_getElem? HX.out, decide_eq_true (by simp only; omega)⟩
        clear h1 e1
        go_wp2_with fail
        refine k1.mono ?_
        rintro e w1 ⟨rfl, rfl⟩
        go_wp2
        go_ret2
        exact ⟨1, 0, rfl, .range (by rw [HN.out]; exact h60) HOT.out, Below.refl _ _⟩
    · have hlz : ¬ (i : Int) < (n : Int) := by omega
      have HO : Hid (l.any LT.outN4 = false) := by
        show _ = _
        rw [List.any_eq_false]
        intro x hx
        obtain ⟨j, hj, e⟩ := List.getElem_of_mem hx
        rw [HO0.out j x (by rw [HN.out] at hj; omega) (by rw [← e]; simp)]; simp
      clear HO0
      go_wp2_with (first | (at_make; refine wpList_make_full _ rfl (.tmp 38) (.tmp 38) 55 rfl w.heap.size 3 i0 (.int .i64 0) 1 Tryd.underlying55 hi hz0 hz1 .i64 .i64 _ _ (n + 1) rfl rfl (by omega) (by omega) (by rw [hz2]; omega) (by unfold maxLen; omega) (Nat.le_refl _) ?_; intro w1 ho1 hg1; have hb1 : Below w.heap.size w w1 := (Below.refl _ _).grown hg1 (Nat.le_refl _) (fun k e => by cases e); obtain ⟨hq1, hw1⟩ := made_ints ho1 (by omega); have HW1 : Hid (WrE EZ w1 w.heap.size 0 (List.replicate (n + 1) 0)) := hw1; clear ho1 hg1 hw1 hq1) | (at_make; refine wpList_make_full _ rfl (.tmp 41) (.tmp 41) 55 rfl w1.heap.size 3 i0 (.int .i64 0) 1 Tryd.underlying55 hi hz0 hz1 .i64 .i64 _ _ (n + 1) rfl rfl (by omega) (by omega) (by rw [hz2]; omega) (by unfold maxLen; omega) (Nat.le_refl _) ?_; intro w2 ho2 hg2; have hb2 : Below w.heap.size w w2 := hb1.grown hg2 hb1.size (fun k e => by cases e); obtain ⟨_, hw2⟩ := made_ints ho2 (by omega); have HT0 : Hid (Rows2 w blk off w.heap.size w1.heap.size l (List.replicate (n + 1) 0) (List.replicate (n + 1) 0) w2) := (show Rows2 _ _ _ _ _ _ _ _ _ from ⟨HR.out.below hb2 HR.out.1, HW1.out.kept hg2 (by simp), hw2, hb2, Nat.le_refl _, HW1.out.lt, HR.out.1⟩); clear ho2 hg2 hw2 hb2))
      have hg67 : w.heap.size < w1.heap.size := HW1.out.lt
      clear HW1 hb1
      obtain ⟨g6, hg6⟩ : ∃ g6, w.heap.size = g6 := ⟨_, rfl⟩
      rw [hg6] at HT0 hg67 ⊢
      generalize w1.heap.size = g7 at HT0 hg67 ⊢
      clear hg6
      go_loopg [8] n (fun gg vi wr => ∃ q : Nat, Down q vi ∧ q ≤ gg ∧ q ≤ n ∧ ∃ sz sp : List Int, Hid (sz.length = n + 1) ∧ Hid (sp.length = n + 1) ∧ Hid (Rows2 w blk off g6 g7 l sz sp wr) ∧ Hid (Found l q n sz sp))
      case atStart => exact ⟨n, down_sub _, Nat.le_refl _, Nat.le_refl _, _, _, (show _ = _ by simp), (show _ = _ by simp), HT0, (show Found _ _ _ _ _ from fun j h1 h2 => absurd h2 (by omega))⟩
      case round =>
        obtain ⟨q, ⟨rfl, rfl⟩ | ⟨m, rfl, rfl⟩, hqg, hqn, sz, sp, H6, H7, HT, HF⟩ := hrel
        · obtain ⟨s, hs, hs6, hs7⟩ := HF.out 0 (Nat.le_refl _) hn0
          obtain ⟨A, hA⟩ : ∃ A, s.size = A := ⟨_, rfl⟩
          obtain ⟨S, hS⟩ : ∃ S, s.spine = S := ⟨_, rfl⟩
          rw [hA] at hs6
          rw [hS] at hs7
          obtain ⟨y6, _⟩ := HT.out.w6.int hs6
          obtain ⟨y7, _⟩ := HT.out.w7.int hs7
          by_cases he : A = n
          · have heq : ((A : Int) == (n : Int)) = true := beq_iff_eq.2 (by omega)
            have HG : Hid (LT.Says l 0 S) := by
              obtain ⟨t, e, ht⟩ := LT.Good.of_sub hs (by rw [hA, HN.out]; exact he)
              have := (LT.Good.whole e ht hs).1
              show LT.Says _ _ _
              rw [← hS, this]
              exact .right t (by rw [HN.out]; exact h60) HO.out e ht
            clear hs hA hS hs6 hs7
            subst he
            go_wp2_with fail
            go_quiet (fail)
            go_wp2
            go_ret2
            exact ⟨0, S, rfl, HG.out, (HT.out.drewN _).below⟩
          · have heq : ((A : Int) == (n : Int)) = false := beq_eq_false_iff_ne.2 (by omega)
            have HS : Hid (¬ LT.Good l) := LT.not_good_size hs (by rw [hA, HN.out]; exact he)
            clear hs hA hS hs6 hs7
            go_wp2
            go_ret2
            exact ⟨3, 0, rfl, .shape (by rw [HN.out]; exact h60) HO.out HS.out, HT.out.below⟩
        · obtain ⟨⟨k, d, L, R⟩, hx⟩ : ∃ x, l[m]? = some x := ⟨l[m]'(by rw [HN.out]; omega), by simp⟩
          obtain ⟨c0, c1, c2, c3⟩ := HT.out.rd.node hx
          have HI : Hid (l[m]? = some (k, d, L, R)) := hx
          have hmz : (m : Int) < (n : Int) := by omega
          have hmy : (m : Int) < (n : Int) + 1 := by omega
          clear hx
          by_cases hL : L = -1
          · subst hL
            have HPA : Hid (LT.PartAt l k (m + 1) (-1) .nil) := .none rfl
            have EA : Hid (True) := trivial
            have ESA : Hid (True) := trivial
            by_cases hR : R = -1
            · subst hR
              have HPB : Hid (LT.PartAt l k (m + 1 + LT.nil.size) (-1) .nil) := .none rfl
              have EB : Hid (True) := trivial
              have ESB : Hid (True) := trivial
              · have hspz : ¬ (0 : Int) < (0 : Int) := by omega
                have HSUB : Hid (LT.SubAt l m (.node k d LT.nil LT.nil)) := LT.SubAt.make HI.out HPA.out HPB.out (by first | omega | exact Nat.zero_le _ | exact Nat.le_of_not_lt hsp)
                have esz : Hid (((LT.node k d LT.nil LT.nil).size : Int) = 0 + 0 + 1) := by show _ = _; simp only [LT.size]; omega
                have esp : Hid (((LT.node k d LT.nil LT.nil).spine : Int) = 0 + 1) := by show _ = _; simp only [LT.spine]; omega
                obtain ⟨o6, hf6⟩ : ∃ o6, sz[m]? = some o6 := ⟨sz[m]'(by rw [H6.out]; omega), by simp⟩
                obtain ⟨o7, hf7⟩ : ∃ o7, sp[m]? = some o7 := ⟨sp[m]'(by rw [H7.out]; omega), by simp⟩
                obtain ⟨m6, z6⟩ := HT.out.w6.int hf6
                obtain ⟨m7, z7⟩ := HT.out.w7.int hf7
                clear hf6 hf7
                go_wp2
                go_roundg m
                case measure => omega
                case rel =>
                  have l6 : m < sz.length := by rw [H6.out]; omega
                  have l7 : m < sp.length := by rw [H7.out]; omega
                  exact ⟨m, down_sub _, Nat.le_refl _, by omega, sz.set m _, sp.set m _, (show _ = _ by rw [List.length_set]; exact H6.out), (show _ = _ by rw [List.length_set]; exact H7.out), HT.out.store l6 l7 (by rw [esz.out]; first | done | omega) (by rw [esp.out]; first | done | omega), HF.out.set HSUB.out l6 l7⟩
            · have hRq : (R == -1) = false := beq_eq_false_iff_ne.2 hR
              by_cases hR1 : R = (m : Int) + 1
              · by_cases hR2 : m + 1 < n
                · have hR2z : (m : Int) + 1 < (n : Int) := by omega
                  have hR2y : (m : Int) + 1 < (n : Int) + 1 := by omega
                  have hR2n : ¬ (n : Int) ≤ (m : Int) + 1 := by omega
                  have hR2d : decide ((n : Int) ≤ (m : Int) + 1) = false := decide_eq_false hR2n
                  have q0 : (0 : Int) ≤ (m : Int) + 1 := by omega
                  have q1 : ((m : Int) + 1).toNat = m + 1 := by omega
                  obtain ⟨⟨k2, d2, L2, R2⟩, hx2⟩ : ∃ x, l[m + 1]? = some x := ⟨l[m + 1]'(by rw [HN.out]; exact hR2), by simp⟩
                  obtain ⟨x0, x1, x2, x3⟩ := HT.out.rd.node hx2
                  have HX2 : Hid (l[m + 1]? = some (k2, d2, L2, R2)) := hx2
                  clear hx2
                  subst hR1
                  by_cases hk2 : k2 < k
                  · have hk2d : decide (k2 < k) = true := decide_eq_true hk2
                    have HS : Hid (¬ LT.Good l) := LT.not_good_right HI.out HPA.out hR (fun h => by have := h.2.2 (k2, d2, L2, R2) (by first | exact HX2.out | (rw [EA.out]; exact HX2.out)); simp only at this; omega)
                    go_wp2_with fail
                    go_quiet (fail)
                    go_wp2
                    go_ret2
                    exact ⟨3, 0, rfl, .shape (by rw [HN.out]; exact h60) HO.out HS.out, (HT.out.drewN _).below⟩
                  · have hk2d : decide (k2 < k) = false := decide_eq_false hk2
                    obtain ⟨b, hsb, hb6, hb7⟩ := HF.out (m + 1) (by omega) hR2
                    have HPB : Hid (LT.PartAt l k (m + 1 + LT.nil.size) ((m : Int) + 1) b) := by show LT.PartAt _ _ _ _ _; first | exact LT.PartAt.of (by first | rfl | omega) hsb HX2.out (by show k ≤ k2; omega) | (rw [EA.out]; exact LT.PartAt.of (by first | rfl | omega) hsb HX2.out (by show k ≤ k2; omega))
                    obtain ⟨B, hB⟩ : ∃ B, b.size = B := ⟨_, rfl⟩
                    obtain ⟨SB, hSB⟩ : ∃ SB, b.spine = SB := ⟨_, rfl⟩
                    have hBs := hsb.fits
                    have hSBs := LT.spine_le b
                    rw [hB] at hb6 hBs hSBs
                    rw [hSB] at hb7 hSBs
                    rw [HN.out] at hBs
                    have EB : Hid (b.size = B) := hB
                    have ESB : Hid (b.spine = SB) := hSB
                    clear hB hSB hsb
                    go_wp2_with fail
                    go_quiet (fail)
                    clear x0 x1 x2 x3
                    have HT' : Hid (Rows2 w blk off g6 g7 l sz sp (wr.drewN nq)) := HT.out.drewN nq
                    clear HT
                    have HT := HT'
                    clear HT'
                    generalize wr.drewN nq = wr' at HT ⊢
                    obtain ⟨wr, rfl⟩ : ∃ x, x = wr' := ⟨_, rfl⟩
                    obtain ⟨y6, _⟩ := HT.out.w6.int hb6
                    obtain ⟨y7, _⟩ := HT.out.w7.int hb7
                    clear hb6 hb7
                    by_cases hsp : 0 < SB
                    · have hspz : (0 : Int) < (SB : Int) := by omega
                      have HS : Hid (¬ LT.Good l) := LT.not_good_spine HI.out HPA.out HPB.out (by rw [ESB.out]; exact hsp)
                      go_wp2
                      go_ret2
                      exact ⟨3, 0, rfl, .shape (by rw [HN.out]; exact h60) HO.out HS.out, HT.out.below⟩
                    · have hspz : ¬ (0 : Int) < (SB : Int) := by omega
                      have HSUB : Hid (LT.SubAt l m (.node k d LT.nil b)) := LT.SubAt.make HI.out HPA.out HPB.out (by rw [ESB.out]; first | omega | exact Nat.zero_le _ | exact Nat.le_of_not_lt hsp)
                      have esz : Hid (((LT.node k d LT.nil b).size : Int) = 0 + (B : Int) + 1) := by show _ = _; simp only [LT.size]; rw [EB.out]; omega
                      have esp : Hid (((LT.node k d LT.nil b).spine : Int) = SB + 1) := by show _ = _; simp only [LT.spine]; rw [ESB.out]; omega
                      obtain ⟨o6, hf6⟩ : ∃ o6, sz[m]? = some o6 := ⟨sz[m]'(by rw [H6.out]; omega), by simp⟩
                      obtain ⟨o7, hf7⟩ : ∃ o7, sp[m]? = some o7 := ⟨sp[m]'(by rw [H7.out]; omega), by simp⟩
                      obtain ⟨m6, z6⟩ := HT.out.w6.int hf6
                      obtain ⟨m7, z7⟩ := HT.out.w7.int hf7
                      clear hf6 hf7
                      go_wp2
                      go_roundg m
                      case measure => omega
                      case rel =>
                        have l6 : m < sz.length := by rw [H6.out]; omega
                        have l7 : m < sp.length := by rw [H7.out]; omega
                        exact ⟨m, down_sub _, Nat.le_refl _, by omega, sz.set m _, sp.set m _, (show _ = _ by rw [List.length_set]; exact H6.out), (show _ = _ by rw [List.length_set]; exact H7.out), HT.out.store l6 l7 (by rw [esz.out]; first | done | omega) (by rw [esp.out]; first | done | omega), HF.out.set HSUB.out l6 l7⟩
                · have hR2z : (n : Int) ≤ (m : Int) + 1 := by omega
                  have hR2d : decide ((n : Int) ≤ (m : Int) + 1) = true := decide_eq_true hR2z
                  subst hR1
                  have HS : Hid (¬ LT.Good l) := LT.not_good_right HI.out HPA.out hR (fun h => hR2 (by have := h.2.1; rw [HN.out] at this; first | exact this | (rw [EA.out] at this; exact this)))
                  go_wp2_with fail
                  go_quiet (fail)
                  go_wp2
                  go_ret2
                  exact ⟨3, 0, rfl, .shape (by rw [HN.out]; exact h60) HO.out HS.out, (HT.out.drewN _).below⟩
              · have hR1q : (R != (m : Int) + 1) = true := bne_iff_ne.2 hR1
                have HS : Hid (¬ LT.Good l) := LT.not_good_right HI.out HPA.out hR (fun h => hR1 (by have := h.1; first | (rw [EA.out] at this; omega) | omega | (simp [LT.size] at this; omega)))
                go_wp2_with fail
                go_quiet (fail)
                go_wp2
                go_ret2
                exact ⟨3, 0, rfl, .shape (by rw [HN.out]; exact h60) HO.out HS.out, (HT.out.drewN _).below⟩
          · have hLq : (L == -1) = false := beq_eq_false_iff_ne.2 hL
            by_cases hL1 : L = (m : Int) + 1
            · by_cases hL2 : m + 1 < n
              · have hL2z : (m : Int) + 1 < (n : Int) := by omega
                have hL2y : (m : Int) + 1 < (n : Int) + 1 := by omega
                have hL2n : ¬ (n : Int) ≤ (m : Int) + 1 := by omega
                have hL2d : decide ((n : Int) ≤ (m : Int) + 1) = false := decide_eq_false hL2n
                have p0 : (0 : Int) ≤ (m : Int) + 1 := by omega
                have p1 : ((m : Int) + 1).toNat = m + 1 := by omega
                obtain ⟨⟨k1, d1, L1, R1⟩, hx1⟩ : ∃ x, l[m + 1]? = some x := ⟨l[m + 1]'(by rw [HN.out]; exact hL2), by simp⟩
                obtain ⟨x0, x1, x2, x3⟩ := HT.out.rd.node hx1
                have HX1 : Hid (l[m + 1]? = some (k1, d1, L1, R1)) := hx1
                clear hx1
                subst hL1
                by_cases hk1 : k1 < k
                · have hk1d : decide (k1 < k) = true := decide_eq_true hk1
                  have HS : Hid (¬ LT.Good l) := LT.not_good_left HI.out hL (fun h => by have := h.2.2 (k1, d1, L1, R1) HX1.out; simp only at this; omega)
                  go_wp2_with fail
                  go_quiet (fail)
                  go_wp2
                  go_ret2
                  exact ⟨3, 0, rfl, .shape (by rw [HN.out]; exact h60) HO.out HS.out, (HT.out.drewN _).below⟩
                · have hk1d : decide (k1 < k) = false := decide_eq_false hk1
                  obtain ⟨a, hsa, ha6, ha7⟩ := HF.out (m + 1) (Nat.le_refl _) hL2
                  have HPA : Hid (LT.PartAt l k (m + 1) ((m : Int) + 1) a) := LT.PartAt.of (by first | rfl | omega) hsa HX1.out (by show k ≤ k1; omega)
                  obtain ⟨A, hA⟩ : ∃ A, a.size = A := ⟨_, rfl⟩
                  obtain ⟨SA, hSA⟩ : ∃ SA, a.spine = SA := ⟨_, rfl⟩
                  have hAs := hsa.fits
                  have hSAs := LT.spine_le a
                  rw [hA] at ha6 hAs hSAs
                  rw [hSA] at ha7 hSAs
                  rw [HN.out] at hAs
                  have EA : Hid (a.size = A) := hA
                  have ESA : Hid (a.spine = SA) := hSA
                  clear hA hSA hsa
                  go_wp2_with fail
                  go_quiet (fail)
                  clear c0 c1 c2 c3 x0 x1 x2 x3
                  have HT' : Hid (Rows2 w blk off g6 g7 l sz sp (wr.drewN nq)) := HT.out.drewN nq
                  clear HT
                  have HT := HT'
                  clear HT'
                  generalize wr.drewN nq = wr' at HT ⊢
                  obtain ⟨wr, rfl⟩ : ∃ x, x = wr' := ⟨_, rfl⟩
                  obtain ⟨c0, c1, c2, c3⟩ := HT.out.rd.node HI.out
                  obtain ⟨w6a, _⟩ := HT.out.w6.int ha6
                  obtain ⟨w7a, _⟩ := HT.out.w7.int ha7
                  clear ha6 ha7
                  by_cases hR : R = -1
                  · subst hR
                    have HPB : Hid (LT.PartAt l k (m + 1 + a.size) (-1) .nil) := .none rfl
                    have EB : Hid (True) := trivial
                    have ESB : Hid (True) := trivial
                    · have hspz : ¬ (SA : Int) < (0 : Int) := by omega
                      have HSUB : Hid (LT.SubAt l m (.node k d a LT.nil)) := LT.SubAt.make HI.out HPA.out HPB.out (by rw [ESA.out]; first | omega | exact Nat.zero_le _ | exact Nat.le_of_not_lt hsp)
                      have esz : Hid (((LT.node k d a LT.nil).size : Int) = (A : Int) + 0 + 1) := by show _ = _; simp only [LT.size]; rw [EA.out]; omega
                      have esp : Hid (((LT.node k d a LT.nil).spine : Int) = 0 + 1) := by show _ = _; simp only [LT.spine]; omega
                      obtain ⟨o6, hf6⟩ : ∃ o6, sz[m]? = some o6 := ⟨sz[m]'(by rw [H6.out]; omega), by simp⟩
                      obtain ⟨o7, hf7⟩ : ∃ o7, sp[m]? = some o7 := ⟨sp[m]'(by rw [H7.out]; omega), by simp⟩
                      obtain ⟨m6, z6⟩ := HT.out.w6.int hf6
                      obtain ⟨m7, z7⟩ := HT.out.w7.int hf7
                      clear hf6 hf7
                      go_wp2
                      go_roundg m
                      case measure => omega
                      case rel =>
                        have l6 : m < sz.length := by rw [H6.out]; omega
                        have l7 : m < sp.length := by rw [H7.out]; omega
                        exact ⟨m, down_sub _, Nat.le_refl _, by omega, sz.set m _, sp.set m _, (show _ = _ by rw [List.length_set]; exact H6.out), (show _ = _ by rw [List.length_set]; exact H7.out), HT.out.store l6 l7 (by rw [esz.out]; first | done | omega) (by rw [esp.out]; first | done | omega), HF.out.set HSUB.out l6 l7⟩
                  · have hRq : (R == -1) = false := beq_eq_false_iff_ne.2 hR
                    by_cases hR1 : R = (m : Int) + 1 + (A : Int)
                    · by_cases hR2 : m + 1 + A < n
                      · have hR2z : (m : Int) + 1 + (A : Int) < (n : Int) := by omega
                        have hR2y : (m : Int) + 1 + (A : Int) < (n : Int) + 1 := by omega
                        have hR2n : ¬ (n : Int) ≤ (m : Int) + 1 + (A : Int) := by omega
                        have hR2d : decide ((n : Int) ≤ (m : Int) + 1 + (A : Int)) = false := decide_eq_false hR2n
                        have q0 : (0 : Int) ≤ (m : Int) + 1 + (A : Int) := by omega
                        have q1 : ((m : Int) + 1 + (A : Int)).toNat = m + 1 + A := by omega
                        obtain ⟨⟨k2, d2, L2, R2⟩, hx2⟩ : ∃ x, l[m + 1 + A]? = some x := ⟨l[m + 1 + A]'(by rw [HN.out]; exact hR2), by simp⟩
                        obtain ⟨x0, x1, x2, x3⟩ := HT.out.rd.node hx2
                        have HX2 : Hid (l[m + 1 + A]? = some (k2, d2, L2, R2)) := hx2
                        clear hx2
                        subst hR1
                        by_cases hk2 : k2 < k
                        · have hk2d : decide (k2 < k) = true := decide_eq_true hk2
                          have HS : Hid (¬ LT.Good l) := LT.not_good_right HI.out HPA.out hR (fun h => by have := h.2.2 (k2, d2, L2, R2) (by first | exact HX2.out | (rw [EA.out]; exact HX2.out)); simp only at this; omega)
                          go_wp2_with fail
                          go_quiet (fail)
                          go_wp2
                          go_ret2
                          exact ⟨3, 0, rfl, .shape (by rw [HN.out]; exact h60) HO.out HS.out, (HT.out.drewN _).below⟩
                        · have hk2d : decide (k2 < k) = false := decide_eq_false hk2
                          obtain ⟨b, hsb, hb6, hb7⟩ := HF.out (m + 1 + A) (by omega) hR2
                          have HPB : Hid (LT.PartAt l k (m + 1 + a.size) ((m : Int) + 1 + (A : Int)) b) := by show LT.PartAt _ _ _ _ _; first | exact LT.PartAt.of (by first | rfl | omega) hsb HX2.out (by show k ≤ k2; omega) | (rw [EA.out]; exact LT.PartAt.of (by first | rfl | omega) hsb HX2.out (by show k ≤ k2; omega))
                          obtain ⟨B, hB⟩ : ∃ B, b.size = B := ⟨_, rfl⟩
                          obtain ⟨SB, hSB⟩ : ∃ SB, b.spine = SB := ⟨_, rfl⟩
                          have hBs := hsb.fits
                          have hSBs := LT.spine_le b
                          rw [hB] at hb6 hBs hSBs
                          rw [hSB] at hb7 hSBs
                          rw [HN.out] at hBs
                          have EB : Hid (b.size = B) := hB
                          have ESB : Hid (b.spine = SB) := hSB
                          clear hB hSB hsb
                          go_wp2_with fail
                          go_quiet (fail)
                          clear x0 x1 x2 x3
                          have HT' : Hid (Rows2 w blk off g6 g7 l sz sp (wr.drewN nq)) := HT.out.drewN nq
                          clear HT
                          have HT := HT'
                          clear HT'
                          generalize wr.drewN nq = wr' at HT ⊢
                          obtain ⟨wr, rfl⟩ : ∃ x, x = wr' := ⟨_, rfl⟩
                          obtain ⟨y6, _⟩ := HT.out.w6.int hb6
                          obtain ⟨y7, _⟩ := HT.out.w7.int hb7
                          clear hb6 hb7
                          by_cases hsp : SA < SB
                          · have hspz : (SA : Int) < (SB : Int) := by omega
                            have HS : Hid (¬ LT.Good l) := LT.not_good_spine HI.out HPA.out HPB.out (by rw [ESA.out, ESB.out]; exact hsp)
                            go_wp2
                            go_ret2
                            exact ⟨3, 0, rfl, .shape (by rw [HN.out]; exact h60) HO.out HS.out, HT.out.below⟩
                          · have hspz : ¬ (SA : Int) < (SB : Int) := by omega
                            have HSUB : Hid (LT.SubAt l m (.node k d a b)) := LT.SubAt.make HI.out HPA.out HPB.out (by rw [ESA.out, ESB.out]; first | omega | exact Nat.zero_le _ | exact Nat.le_of_not_lt hsp)
                            have esz : Hid (((LT.node k d a b).size : Int) = (A : Int) + (B : Int) + 1) := by show _ = _; simp only [LT.size]; rw [EA.out, EB.out]; omega
                            have esp : Hid (((LT.node k d a b).spine : Int) = SB + 1) := by show _ = _; simp only [LT.spine]; rw [ESB.out]; omega
                            obtain ⟨o6, hf6⟩ : ∃ o6, sz[m]? = some o6 := ⟨sz[m]'(by rw [H6.out]; omega), by simp⟩
                            obtain ⟨o7, hf7⟩ : ∃ o7, sp[m]? = some o7 := ⟨sp[m]'(by rw [H7.out]; omega), by simp⟩
                            obtain ⟨m6, z6⟩ := HT.out.w6.int hf6
                            obtain ⟨m7, z7⟩ := HT.out.w7.int hf7
                            clear hf6 hf7
                            go_wp2
                            go_roundg m
                            case measure => omega
                            case rel =>
                              have l6 : m < sz.length := by rw [H6.out]; omega
                              have l7 : m < sp.length := by rw [H7.out]; omega
                              exact ⟨m, down_sub _, Nat.le_refl _, by omega, sz.set m _, sp.set m _, (show _ = _ by rw [List.length_set]; exact H6.out), (show _ = _ by rw [List.length_set]; exact H7.out), HT.out.store l6 l7 (by rw [esz.out]; first | done | omega) (by rw [esp.out]; first | done | omega), HF.out.set HSUB.out l6 l7⟩
                      · have hR2z : (n : Int) ≤ (m : Int) + 1 + (A : Int) := by omega
                        have hR2d : decide ((n : Int) ≤ (m : Int) + 1 + (A : Int)) = true := decide_eq_true hR2z
                        subst hR1
                        have HS : Hid (¬ LT.Good l) := LT.not_good_right HI.out HPA.out hR (fun h => hR2 (by have := h.2.1; rw [HN.out] at this; first | exact this | (rw [EA.out] at this; exact this)))
                        go_wp2_with fail
                        go_quiet (fail)
                        go_wp2
                        go_ret2
                        exact ⟨3, 0, rfl, .shape (by rw [HN.out]; exact h60) HO.out HS.out, (HT.out.drewN _).below⟩
                    · have hR1q : (R != (m : Int) + 1 + (A : Int)) = true := bne_iff_ne.2 hR1
                      have HS : Hid (¬ LT.Good l) := LT.not_good_right HI.out HPA.out hR (fun h => hR1 (by have := h.1; first | (rw [EA.out] at this; omega) | omega | (simp [LT.size] at this; omega)))
                      go_wp2_with fail
                      go_quiet (fail)
                      go_wp2
                      go_ret2
                      exact ⟨3, 0, rfl, .shape (by rw [HN.out]; exact h60) HO.out HS.out, (HT.out.drewN _).below⟩
              · have hL2z : (n : Int) ≤ (m : Int) + 1 := by omega
                have hL2d : decide ((n : Int) ≤ (m : Int) + 1) = true := decide_eq_true hL2z
                subst hL1
                have HS : Hid (¬ LT.Good l) := LT.not_good_left HI.out hL (fun h => hL2 (by have := h.2.1; rw [HN.out] at this; exact this))
                go_wp2_with fail
                go_quiet (fail)
                go_wp2
                go_ret2
                exact ⟨3, 0, rfl, .shape (by rw [HN.out]; exact h60) HO.out HS.out, (HT.out.drewN _).below⟩
            · have hL1q : (L != (m : Int) + 1) = true := bne_iff_ne.2 hL1
              have HS : Hid (¬ LT.Good l) := LT.not_good_left HI.out hL (fun h => hL1 (by have := h.1; omega))
              go_wp2_with fail
              go_quiet (fail)
              go_wp2
              go_ret2
              exact ⟨3, 0, rfl, .shape (by rw [HN.out]; exact h60) HO.out HS.out, (HT.out.drewN _).below⟩

theorem lean_any (v : Value) (l : List Nd) (w : World) (h : SlE EN w v l) (hbig : l.length ≤ 9223372036854775807) :
    Calls Tryd.prog 8 #[v] w fun e w' => ∃ a b : Nat, e = .returned (.tuple #[.int .i64 a, .int .i64 b]) ∧ LT.Says l a b ∧ Below w.heap.size w w' := by
  obtain ⟨p, cap, rfl, hc, hp⟩ := id h
  by_cases h60 : 60 < l.length
  · exact (lean_many p _ cap w h60 hbig).mono fun e w' ⟨a, b⟩ => ⟨4, 0, a, .full h60, b⟩
  · rcases Nat.eq_zero_or_pos l.length with h0 | h0
    · have e0 := List.eq_nil_of_length_eq_zero h0
      subst e0
      exact (lean_none p cap w).mono fun e w' ⟨a, b⟩ => ⟨0, 0, a, .right .nil (Nat.zero_le _) rfl rfl trivial, b⟩
    · obtain ⟨blk, off, rfl, _, _, hr⟩ := h.some h0
      exact lean_some blk off l.length cap l w h0 (by omega) rfl hr
#print axioms lean_any
end Go.Proofs.YtoaabpoicacogaaDoor
