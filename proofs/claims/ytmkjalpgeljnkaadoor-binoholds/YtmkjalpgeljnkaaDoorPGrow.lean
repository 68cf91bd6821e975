/-
  The statements' own heaps of trees: items pushed one by one; a closed fact.
-/
import Derived.Test.YtmkjalpgeljnkaaDoorDPop
import Derived.Test.YtmkjalpgeljnkaaDoorSameT
import Derived.Test.YtmkjalpgeljnkaaDoorBDig
namespace Go.Proofs.YtmkjalpgeljnkaaDoor
open Go.RowKit Go.Sort Go.Proofs

theorem allZ_zH (g : List TrL) : allZ (zH g) = itemsH g := by
  unfold allZ zH itemsH
  rw [List.flatMap_map]
/-- The heap g has the first i of the items xs, and they are all right. -/
structure Plants (xs : Array (Int × Int)) (i : Nat) (g : List TrL) : Prop where
  ok : OkH g
  size : (itemsH g).length = i
  perm : (itemsH g).Perm (xs.toList.take i)
  right : ∀ x ∈ xs.toList.take i, outB x = false
theorem OkH.nil : OkH [] := ⟨IsH.nil, fun t h => (by cases h), fun x h => (by simp [itemsH] at h), (by simp [itemsH])⟩
theorem Plants.start (xs : Array (Int × Int)) : Plants xs 0 [] := ⟨OkH.nil, rfl, by simp [itemsH], by simp⟩
theorem Plants.push {xs : Array (Int × Int)} {i : Nat} {g : List TrL} (h : Plants xs i g) (hi : i < xs.size) (h60 : i < 60) {x0 x1 : Int} (e : xs[i]! = (x0, x1)) (hx : outB (x0, x1) = false) : Plants xs (i + 1) (meldH g (aloneH (x0, x1))) := by
  have hl : i < xs.toList.length := by simpa using hi
  have e1 : xs.toList.take (i + 1) = xs.toList.take i ++ [(x0, x1)] := by rw [List.take_succ_eq_append_getElem hl, getD_toList xs i hl, e]
  have hs := h.size
  obtain ⟨o1, o2⟩ := h.ok.meld (alone_ok hx) (by simp [itemsH] at hs ⊢; omega)
  refine ⟨o1, ?_, ?_, ?_⟩
  · rw [o2.length_eq, List.length_append, hs]; simp [itemsH]
  · rw [e1]
    exact o2.trans (List.Perm.append h.perm (by simp [itemsH]))
  · rw [e1]
    intro x hm
    rcases List.mem_append.1 hm with q | q
    · exact h.right x q
    · rw [List.mem_singleton.1 q]; exact hx
theorem Plants.all {xs : Array (Int × Int)} {g : List TrL} (h : Plants xs xs.size g) (h60 : xs.size ≤ 60) : wrong xs = 0 := by
  have ha : anyOut xs = false := by
    unfold anyOut
    rw [List.any_eq_false]
    intro x hx
    rw [h.right x (by rw [List.take_of_length_le (by simp)]; exact hx)]
    simp
  unfold wrong; rw [if_neg (by omega), ha]; rfl
theorem wrong_outB {xs : Array (Int × Int)} {i : Nat} (hi : i < xs.size) (hx : outB xs[i]! = true) : wrong xs ≠ 0 := by
  unfold wrong
  rw [anyOut_true hi hx]
  split <;> simp
/-- What planted tells. -/
def PlantR (xs : Array (Int × Int)) (e : Ending) (w' : World) : Prop :=
  (wrong xs = 0 ∧ ∃ p m c g, e = .returned (.tuple #[.slice p m c, .bool true]) ∧ HpAt w' (.slice p m c) (zH g) ∧ Plants xs xs.size g) ∨
    (wrong xs ≠ 0 ∧ ∃ p m c, e = .returned (.tuple #[.slice p m c, .bool false]))

set_option maxHeartbeats 16000000 in
set_option maxRecDepth 4000 in
theorem planted_some (p : Option Addr) (n cap : Nat) (xs : Array (Int × Int)) (w : World) (hbig : n ≤ 9223372036854775807) (HN : Hid (xs.size = n)) (HS : Hid (Sl w (.slice p n cap) xs)) :
    Calls Tryd.prog 19 #[.slice p n cap] w fun e w' => PlantR xs e w' ∧ Below w.heap.size w w' := by
  go_enter Tryd.func19, Tryd.ntmps19
  go_wp2
  go_loopg [4, 5] 60 (fun gg vh vi wr => ∃ (i m ch : Nat) (ph : Option Addr), vh = .slice ph m ch ∧ vi = .int .i64 i ∧ i + gg = 60 ∧ i ≤ n ∧ ∃ g : List TrL, Hid (HpAt wr (.slice ph m ch) (zH g)) ∧ Hid (Plants xs i g) ∧ Hid (Below w.heap.size w wr))
  case atStart => exact ⟨0, 0, 0, none, rfl, rfl, by omega, Nat.zero_le _, [], HpAt.nil _ _ _, Plants.start xs, Below.refl _ _⟩
  case round =>
    obtain ⟨i, m, ch, ph, rfl, rfl, hg, hin, g, HSL, HG, HB⟩ := hrel
    by_cases hlt : i < n
    · have hlz : (i : Int) < (n : Int) := by omega
      by_cases h60 : i < 60
      · have h60z : (i : Int) < 60 := by omega
        obtain ⟨blk, off, hp, hr⟩ : ∃ blk off, p = some ⟨blk, off, none⟩ ∧ RdAt w blk off xs := by
          obtain ⟨p', c', e, _, h0 | ⟨blk, off, rfl, hr⟩⟩ := HS.out
          · rw [HN.out] at h0; omega
          · simp only [Value.slice.injEq] at e; exact ⟨blk, off, e.1, hr⟩
        subst hp
        have hrr := hr.below HB.out hr.1
        obtain ⟨x0, x1, hx⟩ : ∃ x y, xs[i]! = (x, y) := ⟨_, _, rfl⟩
        obtain ⟨cx0, cx1⟩ := hrr.2 i (by rw [HN.out]; exact hlt)
        rw [hx] at cx0 cx1
        cases ho : outB (x0, x1)
        · have cP := dPush_good _ x0 x1 g wr HSL.out HG.out.ok ho (by rw [HG.out.size]; exact h60)
          have HG' : Hid (Plants xs (i + 1) (meldH g (aloneH (x0, x1)))) := HG.out.push (by rw [HN.out]; exact hlt) h60 hx ho
          clear hx ho hrr hr
          go_wp2_with fail
          refine cP.mono ?_
          rintro e w2 ⟨v2, rfl, hn2, hb2'⟩
          have HB2 : Hid (Below w.heap.size w w2) := HB.out.trans (hb2'.mono HB.out.size)
          have HS2 : Hid (HpAt w2 v2 (zH (meldH g (aloneH (x0, x1))))) := hn2.heap
          obtain ⟨p2, c2, hv2⟩ := HS2.out.form
          clear hn2 hb2' cP
          subst hv2
          generalize (zH (meldH g (aloneH (x0, x1)))).length = m2 at *
          go_wp2
          go_roundg (60 - (i + 1))
          case measure => omega
          case rel => exact ⟨i + 1, m2, c2, p2, rfl, by go_num, by omega, by omega, _, HS2, HG', HB2⟩
        · have cP := dPush_bad _ x0 x1 _ 1 wr HSL.out HG.out.ok.fit (by unfold meldE; rw [if_pos (binoE_ok HG.out.ok), if_neg (by rw [alone_bad ho]; decide), alone_bad ho]) (by decide)
          have HW : Hid (wrong xs ≠ 0) := wrong_outB (i := i) (by rw [HN.out]; exact hlt) (by rw [hx]; exact ho)
          clear hx ho hrr hr
          go_wp2_with fail
          refine cP.mono ?_
          rintro e w2 ⟨rfl, hb2'⟩
          have hb2 := HB.out.trans (hb2'.mono HB.out.size)
          go_wp2
          go_ret2
          exact ⟨Or.inr ⟨HW.out, _, _, _, rfl⟩, hb2⟩
      · have h60z : ¬ (i : Int) < 60 := by omega
        obtain rfl : i = 60 := by omega
        have hiq : ((60 : Int) == (n : Int)) = false := beq_eq_false_iff_ne.2 (by omega)
        have HW : Hid (wrong xs ≠ 0) := by show wrong xs ≠ 0; unfold wrong; rw [if_pos (by rw [HN.out]; omega)]; decide
        obtain ⟨pm, cm, em⟩ := HSL.out.form
        rw [zH_len] at em
        have hml : m = g.length := by simp only [Value.slice.injEq] at em; exact em.2.1
        have cT := treeItems_some ph m ch (zH g) wr (by have := HG.out.ok.len_le; omega) (by show _ = _; rw [zH_len]; exact hml.symm) (by show _ ≤ _; rw [allZ_zH, HG.out.size]; omega) HSL
        have HLZ : Hid ((allZ (zH g)).length = 60) := by show _ = _; rw [allZ_zH]; exact HG.out.size
        clear em hml
        go_wp2_with fail
        refine cT.mono ?_
        rintro e w2 ⟨u, rfl, hu, hb2'⟩
        have hb2 := HB.out.trans (hb2'.mono HB.out.size)
        obtain ⟨pu, cu, eu, _⟩ := hu.sl
        rw [List.size_toArray, HLZ.out] at eu
        subst eu
        clear hu hb2' cT
        go_wp2
        go_ret2
        exact ⟨Or.inr ⟨HW.out, _, _, _, rfl⟩, hb2⟩
    · have hlz : ¬ (i : Int) < (n : Int) := by omega
      obtain rfl : i = n := by omega
      have HGN : Hid (Plants xs xs.size g) := by show Plants _ _ _; rw [HN.out]; exact HG.out
      have hbb : ((i : Int) == (i : Int)) = true := beq_self_eq_true _
      obtain ⟨pm, cm, em⟩ := HSL.out.form
      rw [zH_len] at em
      have hml : m = g.length := by simp only [Value.slice.injEq] at em; exact em.2.1
      have cT := treeItems_some ph m ch (zH g) wr (by have := HG.out.ok.len_le; omega) (by show _ = _; rw [zH_len]; exact hml.symm) (by show _ ≤ _; rw [allZ_zH, HG.out.size]; omega) HSL
      have HLZ : Hid ((allZ (zH g)).length = i) := by show _ = _; rw [allZ_zH]; exact HG.out.size
      clear em hml
      go_wp2_with fail
      refine cT.mono ?_
      rintro e w2 ⟨u, rfl, hu, hb2'⟩
      have hb2 := HB.out.trans (hb2'.mono HB.out.size)
      have HS2 : Hid (HpAt w2 (.slice ph m ch) (zH g)) := HSL.out.below hb2'
      obtain ⟨pu, cu, eu, _⟩ := hu.sl
      rw [List.size_toArray, HLZ.out] at eu
      subst eu
      clear hu hb2' cT
      go_wp2
      go_ret2
      exact ⟨Or.inl ⟨HGN.out.all (by rw [HN.out]; omega), ph, m, ch, g, rfl, HS2.out, HGN.out⟩, hb2⟩
theorem planted_good (v : Value) (xs : Array (Int × Int)) (w : World) (h : Sl w v xs) (h0 : wrong xs = 0) :
    Calls Tryd.prog 19 #[v] w fun e w' => ∃ p m c g, e = .returned (.tuple #[.slice p m c, .bool true]) ∧ HpAt w' (.slice p m c) (zH g) ∧ Plants xs xs.size g ∧ Below w.heap.size w w' := by
  obtain ⟨p, cap, rfl, hcap, hp⟩ := id h
  refine (planted_some p xs.size cap xs w (by have := wrong_le h0; omega) rfl h).mono ?_
  rintro e w' ⟨⟨_, p, m, c, g, a, b, d⟩ | ⟨q, _⟩, hb⟩
  · exact ⟨p, m, c, g, a, b, d, hb⟩
  · exact absurd h0 q
theorem planted_bad (v : Value) (xs : Array (Int × Int)) (w : World) (h : Sl w v xs) (hbig : xs.size ≤ 9223372036854775807) (h0 : wrong xs ≠ 0) :
    Calls Tryd.prog 19 #[v] w fun e w' => ∃ p m c, e = .returned (.tuple #[.slice p m c, .bool false]) ∧ Below w.heap.size w w' := by
  obtain ⟨p, cap, rfl, hcap, hp⟩ := id h
  refine (planted_some p xs.size cap xs w hbig rfl h).mono ?_
  rintro e w' ⟨⟨q, _⟩ | ⟨_, p, m, c, a⟩, hb⟩
  · exact absurd q h0
  · exact ⟨p, m, c, a, hb⟩
theorem rd_twoP (w : World) (x0 x1 y0 y1 : Int) : RdAt (w.alloc (.cells #[.int .i64 x0, .int .i64 x1, .int .i64 y0, .int .i64 y1] 24)) w.heap.size 0 #[(x0, x1), (y0, y1)] := by
  refine ⟨by simp, fun i hi => ?_⟩
  match i, hi with
  | 0, _ => exact ⟨by simp, by simp⟩
  | 1, _ => exact ⟨by simp, by simp⟩
  | i + 2, hi => exact absurd hi (by simp)
theorem twoOfP (a b : Int) (w : World) : Calls Tryd.prog 41 #[.int .i64 a, .int .i64 b] w fun e w' =>
    e = .returned (.slice (some ⟨w.heap.size, 0, none⟩) 2 2) ∧ w' = w.alloc (.cells #[.int .i64 a, .int .i64 1, .int .i64 b, .int .i64 2] 24) := by
  go_enter Tryd.func41, Tryd.ntmps41
  go_wp2
  go_ret
  exact ⟨rfl, rfl⟩
/-- Of two items there is one tree, of rank 1. -/
theorem two_tree {g : List TrL} (h : OkH g) (hs : (itemsH g).length = 2) : ∃ l, g = [(1, l)] := by
  obtain ⟨_, h0⟩ := digits_cons (r := 0) (n := 2) h.isH (fun t _ => Nat.zero_le _) hs
  obtain ⟨h1, h2⟩ := h0 (by decide)
  obtain ⟨h3, _⟩ := digits_cons (r := 1) (n := 1) h.isH h1 hs
  obtain ⟨l, g', rfl, _, h4, h5⟩ := h3 (by decide)
  have : g' = [] := by
    cases g' with
    | nil => rfl
    | cons t g' =>
      have hT := h.isH.tail.trees t List.mem_cons_self
      have hp := two_pos t.1
      have hl := hT.len
      rw [itemsH_cons, List.length_append] at h5
      have h6 : t.2.length + (itemsH g').length = 0 := h5
      omega
  rw [this]
  exact ⟨l, rfl⟩
set_option maxHeartbeats 4000000 in
theorem binoFact_any (w : World) : Calls Tryd.prog 18 #[] w fun e w' => e = .returned (.bool true) ∧ Below w.heap.size w w' := by
  have hc := planted_good _ #[(5, 1), (3, 2)] _ (Sl.of_rd (cap := 2) (rd_twoP w 5 1 3 2) (by decide)) (by decide)
  change Calls Tryd.prog 19 #[.slice (some ⟨w.heap.size, 0, none⟩) 2 2] _ (fun e w' => ∃ p m c g, e = .returned (.tuple #[.slice p m c, .bool true]) ∧ HpAt w' (.slice p m c) (zH g) ∧ Plants _ 2 g ∧ _) at hc
  go_enter Tryd.func18, Tryd.ntmps18
  go_wp2_with (first | (go_at_call 41; refine (twoOfP 5 3 _).mono ?_; rintro e w1 ⟨rfl, rfl⟩))
  refine hc.mono ?_
  rintro e w2 ⟨p, m, c, g, rfl, hs, hg, hb⟩
  obtain ⟨l, rfl⟩ := two_tree hg.ok hg.size
  obtain ⟨pm, cm, em⟩ := hs.form
  have hm : m = 1 := by simp only [Value.slice.injEq] at em; exact em.2.1
  subst hm
  obtain ⟨blk, off, q, c', rfl, hblk, c0, _⟩ := hs.tree (i := 0) (r := 1) (l := l) rfl
  simp only [Nat.zero_mul, Nat.add_zero] at c0
  clear hs hg hc em
  go_wp2
  go_ret
  exact ⟨rfl, ((Below.refl _ _).alloc (Nat.le_refl _) _).trans (hb.mono (by simp))⟩
#print axioms binoFact_any
end Go.Proofs.YtmkjalpgeljnkaaDoor
