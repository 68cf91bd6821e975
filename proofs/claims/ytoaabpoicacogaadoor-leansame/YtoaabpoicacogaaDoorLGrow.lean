/-
  The statements' own leaning heaps: items pushed one by one; a closed fact.
-/
import Derived.Test.YtoaabpoicacogaaDoorLApi2
namespace Go.Proofs.YtoaabpoicacogaaDoor
open Go.RowKit Go.Sort Go.Proofs

/-- The heap t has the first i of the items xs, and they are all right. -/
structure GrowsL (xs : Array (Int × Int)) (i : Nat) (t : LT) : Prop where
  size : t.size = i
  perm : t.items.Perm (xs.toList.take i)
  leans : LT.Leans t
  right : ∀ x ∈ xs.toList.take i, outB x = false
theorem outB_in {x : Int × Int} (h : outB x = false) : -1000000 ≤ x.1 ∧ x.1 ≤ 1000000 ∧ 0 ≤ x.2 ∧ x.2 ≤ 1000000 := by
  have := of_decide_eq_false h
  omega
theorem GrowsL.start (xs : Array (Int × Int)) : GrowsL xs 0 .nil := ⟨rfl, by simp [LT.items], trivial, by simp⟩
theorem GrowsL.inR {xs : Array (Int × Int)} {i : Nat} {t : LT} (h : GrowsL xs i t) : InR t := fun x hx => outB_in (h.right x (h.perm.mem_iff.1 hx))
theorem GrowsL.isL {xs : Array (Int × Int)} {i : Nat} {t : LT} (h : GrowsL xs i t) (hi : i ≤ 60) : IsL (LT.enc 0 t) t := IsL.of h.leans h.inR (by rw [h.size]; exact hi)
theorem GrowsL.push {xs : Array (Int × Int)} {i : Nat} {t : LT} (h : GrowsL xs i t) (hi : i < xs.size) {x0 x1 : Int} (e : xs[i]! = (x0, x1)) (hx : outB (x0, x1) = false) : GrowsL xs (i + 1) (LT.meld t (.node x0 x1 .nil .nil)) := by
  have hl : i < xs.toList.length := by simpa using hi
  have e1 : xs.toList.take (i + 1) = xs.toList.take i ++ [(x0, x1)] := by rw [List.take_succ_eq_append_getElem hl, getD_toList xs i hl, e]
  refine ⟨by rw [LT.meld_size, h.size]; rfl, ?_, LT.meld_leans _ _ h.leans ⟨trivial, trivial, Nat.le_refl _, trivial, trivial⟩, ?_⟩
  · rw [e1]
    exact (LT.meld_items _ _).trans (List.Perm.append h.perm (by simp [LT.items]))
  · rw [e1]
    intro x hm
    rcases List.mem_append.1 hm with q | q
    · exact h.right x q
    · rw [List.mem_singleton.1 q]; exact hx
theorem GrowsL.all {xs : Array (Int × Int)} {t : LT} (h : GrowsL xs xs.size t) (h60 : xs.size ≤ 60) : wrong xs = 0 := by
  have ha : anyOut xs = false := by
    unfold anyOut
    rw [List.any_eq_false]
    intro x hx
    rw [h.right x (by rw [List.take_of_length_le (by simp)]; exact hx)]
    simp
  unfold wrong; rw [if_neg (by omega), ha]; rfl
theorem wrong_outI {xs : Array (Int × Int)} {i : Nat} (hi : i < xs.size) (hx : outB xs[i]! = true) : wrong xs ≠ 0 := by
  unfold wrong
  rw [anyOut_true hi hx]
  split <;> simp
/-- What grown tells. -/
def GrownR (xs : Array (Int × Int)) (e : Ending) (w' : World) : Prop :=
  (wrong xs = 0 ∧ ∃ p c t, e = .returned (.tuple #[.slice p xs.size c, .bool true]) ∧ SlE EN w' (.slice p xs.size c) (LT.enc 0 t) ∧ GrowsL xs xs.size t) ∨
    (wrong xs ≠ 0 ∧ ∃ p m c, e = .returned (.tuple #[.slice p m c, .bool false]))

set_option maxHeartbeats 8000000 in
set_option maxRecDepth 4000 in
theorem grown_some (p : Option Addr) (n cap : Nat) (xs : Array (Int × Int)) (w : World) (hbig : n ≤ 9223372036854775807) (HN : Hid (xs.size = n)) (HS : Hid (Sl w (.slice p n cap) xs)) :
    Calls Tryd.prog 19 #[.slice p n cap] w fun e w' => GrownR xs e w' ∧ Below w.heap.size w w' := by
  go_enter Tryd.func19, Tryd.ntmps19
  go_wp2
  go_loopg [4, 5] 60 (fun gg vh vi wr => ∃ (i ch : Nat) (ph : Option Addr), vh = .slice ph i ch ∧ vi = .int .i64 i ∧ i + gg = 60 ∧ i ≤ n ∧ ∃ t : LT, Hid (SlE EN wr (.slice ph i ch) (LT.enc 0 t)) ∧ Hid (GrowsL xs i t) ∧ Hid (Below w.heap.size w wr))
  case atStart => exact ⟨0, 0, none, rfl, rfl, by omega, Nat.zero_le _, .nil, SlE.empty _ _ _, GrowsL.start xs, Below.refl _ _⟩
  case round =>
    obtain ⟨i, ch, ph, rfl, rfl, hg, hin, t, HSL, HG, HB⟩ := hrel
    by_cases hlt : i < n
    · have hlz : (i : Int) < (n : Int) := by omega
      by_cases h60 : i < 60
      · have h60z : (i : Int) < 60 := by omega
        obtain ⟨blk, off, hp, hr⟩ : ∃ blk off, p = some ⟨blk, off, none⟩ ∧ RdAt w blk off xs := by
          obtain ⟨p', c', e, _, h0 | ⟨blk, off, rfl, hr⟩⟩ := HS.out
          · rw [HN.out] at h0; omega
          · simp only [Value.slice.injEq] at e; exact ⟨blk, off, e.1, hr⟩
        subst hp
        have hrr := hr.below HB.out hr.1
        obtain ⟨x0, x1, hx⟩ : ∃ x y, xs[i]! = (x, y) := ⟨_, _, rfl⟩
        obtain ⟨cx0, cx1⟩ := hrr.2 i (by rw [HN.out]; exact hlt)
        rw [hx] at cx0 cx1
        cases ho : outB (x0, x1)
        · have cP := leanPush_good _ x0 x1 _ t wr HSL.out (HG.out.isL (by omega)) ho (by rw [HG.out.size]; exact h60)
          have HG' : Hid (GrowsL xs (i + 1) (LT.meld t (.node x0 x1 .nil .nil))) := HG.out.push (by rw [HN.out]; exact hlt) hx ho
          clear hx ho hrr hr
          go_wp2_with fail
          refine cP.mono ?_
          rintro e w2 ⟨v2, rfl, ho2, hb2'⟩
          have HB2 : Hid (Below w.heap.size w w2) := HB.out.trans (hb2'.mono HB.out.size)
          obtain ⟨p2, c2, hv2⟩ := ho2.form
          rw [LT.enc_length, HG'.out.size] at hv2
          subst hv2
          have HS2 : Hid (SlE EN w2 (.slice p2 (i + 1) c2) (LT.enc 0 (LT.meld t (.node x0 x1 .nil .nil)))) := ho2.sl
          clear ho2 hb2' cP
          go_wp2
          go_roundg (60 - (i + 1))
          case measure => omega
          case rel => exact ⟨i + 1, c2, p2, rfl, by go_num, by omega, by omega, _, HS2, HG', HB2⟩
        · have cP := leanPush_bad _ x0 x1 _ 1 wr HSL.out (by rw [LT.enc_length, HG.out.size]; omega) (Or.inr ⟨t, HG.out.isL (by omega), Or.inl ⟨by decide, alone_says ho⟩⟩)
          have HW : Hid (wrong xs ≠ 0) := wrong_outI (i := i) (by rw [HN.out]; exact hlt) (by rw [hx]; exact ho)
          clear hx ho hrr hr
          go_wp2_with fail
          refine cP.mono ?_
          rintro e w2 ⟨rfl, hb2'⟩
          have hb2 := HB.out.trans (hb2'.mono HB.out.size)
          go_wp2
          go_ret2
          exact ⟨Or.inr ⟨HW.out, _, _, _, rfl⟩, hb2⟩
      · have h60z : ¬ (i : Int) < 60 := by omega
        have hiq : ((i : Int) == (n : Int)) = false := beq_eq_false_iff_ne.2 (by omega)
        have HW : Hid (wrong xs ≠ 0) := by show wrong xs ≠ 0; unfold wrong; rw [if_pos (by rw [HN.out]; omega)]; decide
        go_wp2
        go_ret2
        exact ⟨Or.inr ⟨HW.out, _, _, _, rfl⟩, HB.out⟩
    · have hlz : ¬ (i : Int) < (n : Int) := by omega
      obtain rfl : i = n := by omega
      have HGN : Hid (GrowsL xs xs.size t) := by show GrowsL _ _ _; rw [HN.out]; exact HG.out
      have hbb : ((i : Int) == (i : Int)) = true := beq_self_eq_true _
      go_wp2
      go_ret2
      exact ⟨Or.inl ⟨HGN.out.all (by rw [HN.out]; omega), ph, ch, t, by rw [HN.out]; rfl, by rw [HN.out]; exact HSL.out, HGN.out⟩, HB.out⟩
theorem grown_good (v : Value) (xs : Array (Int × Int)) (w : World) (h : Sl w v xs) (h0 : wrong xs = 0) :
    Calls Tryd.prog 19 #[v] w fun e w' => ∃ p c t, e = .returned (.tuple #[.slice p xs.size c, .bool true]) ∧ SlE EN w' (.slice p xs.size c) (LT.enc 0 t) ∧ GrowsL xs xs.size t ∧ Below w.heap.size w w' := by
  obtain ⟨p, cap, rfl, hcap, hp⟩ := id h
  refine (grown_some p xs.size cap xs w (by have := wrong_le h0; omega) rfl h).mono ?_
  rintro e w' ⟨⟨_, p, c, t, a, b, d⟩ | ⟨q, _⟩, hb⟩
  · exact ⟨p, c, t, a, b, d, hb⟩
  · exact absurd h0 q
theorem grown_bad (v : Value) (xs : Array (Int × Int)) (w : World) (h : Sl w v xs) (hbig : xs.size ≤ 9223372036854775807) (h0 : wrong xs ≠ 0) :
    Calls Tryd.prog 19 #[v] w fun e w' => ∃ p m c, e = .returned (.tuple #[.slice p m c, .bool false]) ∧ Below w.heap.size w w' := by
  obtain ⟨p, cap, rfl, hcap, hp⟩ := id h
  refine (grown_some p xs.size cap xs w hbig rfl h).mono ?_
  rintro e w' ⟨⟨q, _⟩ | ⟨_, p, m, c, a⟩, hb⟩
  · exact absurd q h0
  · exact ⟨p, m, c, a, hb⟩

theorem rd_twoL (w : World) (x0 x1 y0 y1 : Int) : RdAt (w.alloc (.cells #[.int .i64 x0, .int .i64 x1, .int .i64 y0, .int .i64 y1] 24)) w.heap.size 0 #[(x0, x1), (y0, y1)] := by
  refine ⟨by simp, fun i hi => ?_⟩
  match i, hi with
  | 0, _ => exact ⟨by simp, by simp⟩
  | 1, _ => exact ⟨by simp, by simp⟩
  | i + 2, hi => exact absurd hi (by simp)
theorem twoOfL (a b : Int) (w : World) : Calls Tryd.prog 36 #[.int .i64 a, .int .i64 b] w fun e w' =>
    e = .returned (.slice (some ⟨w.heap.size, 0, none⟩) 2 2) ∧ w' = w.alloc (.cells #[.int .i64 a, .int .i64 1, .int .i64 b, .int .i64 2] 24) := by
  go_enter Tryd.func36, Tryd.ntmps36
  go_wp2
  go_ret
  exact ⟨rfl, rfl⟩
theorem two_root {t : LT} (h : GrowsL #[(5, 1), (3, 2)] 2 t) : ∃ i l r L R, (LT.enc 0 t)[0]? = some (3, i, L, R) ∧ t = .node 3 i l r := by
  have hp : t.items.Perm [(5, 1), (3, 2)] := h.perm
  cases t using LT.parts with
  | nil => have := h.size; simp [LT.size] at this
  | node k i l r =>
    have hm : (3, 2) ∈ (LT.node k i l r).items := hp.mem_iff.2 (by simp)
    have h3 := LT.root_least (.node k i l r) k (show k ≤ k from Int.le_refl k) h.leans _ hm
    have hk : (k, i) ∈ [((5 : Int), (1 : Int)), (3, 2)] := hp.mem_iff.1 (by simp [LT.items])
    have e : k = 3 := by
      simp only [List.mem_cons, Prod.mk.injEq, List.not_mem_nil, or_false] at hk
      rcases hk with ⟨rfl, _⟩ | ⟨rfl, _⟩
      · simp at h3
      · rfl
    subst e
    exact ⟨i, l, r, _, _, rfl, rfl⟩
set_option maxHeartbeats 2000000 in
theorem leanFact_any (w : World) : Calls Tryd.prog 18 #[] w fun e w' => e = .returned (.bool true) ∧ Below w.heap.size w w' := by
  have hc := grown_good _ #[(5, 1), (3, 2)] _ (Sl.of_rd (cap := 2) (rd_twoL w 5 1 3 2) (by decide)) (by decide)
  change Calls Tryd.prog 19 #[.slice (some ⟨w.heap.size, 0, none⟩) 2 2] _ (fun e w' => ∃ p c t, e = .returned (.tuple #[.slice p 2 c, .bool true]) ∧ SlE EN w' (.slice p 2 c) (LT.enc 0 t) ∧ GrowsL _ 2 t ∧ _) at hc
  go_enter Tryd.func18, Tryd.ntmps18
  go_wp2_with (first | (go_at_call 36; refine (twoOfL 5 3 _).mono ?_; rintro e w1 ⟨rfl, rfl⟩))
  refine hc.mono ?_
  rintro e w2 ⟨p, c, t, rfl, hs, hg, hb⟩
  obtain ⟨blk, off, rfl, _, _, hr⟩ := hs.some (by decide)
  obtain ⟨i, l, r, L, R, hx, _⟩ := two_root hg
  obtain ⟨c0, _⟩ := hr.node hx
  simp only [Nat.zero_mul, Nat.add_zero] at c0
  clear hr hs hg hx hc
  go_wp2
  go_ret
  exact ⟨rfl, ((Below.refl _ _).alloc (Nat.le_refl _) _).trans (hb.mono (by simp))⟩
#print axioms leanFact_any
end Go.Proofs.YtoaabpoicacogaaDoor
