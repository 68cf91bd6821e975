/-
  Texts that the proof leans on, packed: RefB3, Ref1, RefB7, RefB4, Wr, RefB5, DRanks, DDig.
-/
import Derived.Test.YtmkjalpgeljnkaaDoorPack1

/-
  The document's heaps of trees: the size; two trees linked.
-/
namespace Go.Proofs.YtmkjalpgeljnkaaDoor
open Go.RowKit Go.Sort Go.Proofs

/-- How many items there are in all. -/
def sizeZ (h : List (Int × List (Int × Int))) : Nat := (h.map fun t => t.2.length).sum
theorem sizeZ_take_succ {h : List (Int × List (Int × Int))} {i : Nat} {r : Int} {l : List (Int × Int)} (hi : h[i]? = some (r, l)) : sizeZ (h.take (i + 1)) = sizeZ (h.take i) + l.length := by
  obtain ⟨hlt, e⟩ := List.getElem?_eq_some_iff.1 hi
  unfold sizeZ
  rw [List.take_succ_eq_append_getElem hlt, List.map_append, List.sum_append, e]
  simp
theorem sizeZ_take_le (h : List (Int × List (Int × Int))) (i : Nat) : sizeZ (h.take i) ≤ sizeZ h := by
  have e : sizeZ h = sizeZ (h.take i) + sizeZ (h.drop i) := by
    unfold sizeZ
    rw [← List.sum_append, ← List.map_append, List.take_append_drop]
  omega
set_option maxHeartbeats 2000000 in
theorem size_any (p : Option Addr) (n cap : Nat) (h : List (Int × List (Int × Int))) (w : World) (hs : sizeZ h ≤ 1000) (hn : n ≤ 1000) (HN : Hid (h.length = n)) (HH : Hid (HpAt w (.slice p n cap) h)) :
    Calls Tryd.prog 10 #[.slice p n cap] w fun e w' => e = .returned (.int .i64 (sizeZ h : Nat)) ∧ w' = w := by
  go_enter Tryd.func10, Tryd.ntmps10
  go_wp2
  go_loopg [3, 4] n (fun g vn vi wr => ∃ i m : Nat, vi = .int .i64 i ∧ vn = .int .i64 m ∧ i ≤ n ∧ n - i ≤ g ∧ m ≤ 1000 ∧ Hid (m = sizeZ (h.take i)) ∧ Hid (w = wr))
  case atStart => exact ⟨0, 0, rfl, rfl, Nat.zero_le _, by omega, by omega, (show _ = _ by simp [sizeZ]), rfl⟩
  case round =>
    obtain ⟨i, m, rfl, rfl, hin, hg, hm, HM, HW⟩ := hrel
    by_cases hlt : i < n
    · have hlz : (i : Int) < (n : Int) := by omega
      obtain ⟨⟨r, l⟩, hx⟩ : ∃ x, h[i]? = some x := ⟨h[i]'(by rw [HN.out]; omega), by simp⟩
      obtain ⟨blk, off, q, c, rfl, hb, c0, c1, _⟩ := HH.out.tree hx
      rw [HW.out] at c0 c1
      have HM' : Hid (m + l.length = sizeZ (h.take (i + 1))) := by show _ = _; rw [sizeZ_take_succ hx, HM.out]
      have hml : m + l.length ≤ 1000 := by rw [HM'.out]; exact Nat.le_trans (sizeZ_take_le h _) hs
      generalize l.length = len at *
      have hw1 : IntKind.i64.wrap ((m : Int) + (len : Int)) = (m : Int) + (len : Int) := by rw [IntKind.wrap_i64]; omega
      clear hx HM
      go_wp2
      go_roundg (n - (i + 1))
      case measure => omega
      case rel => exact ⟨i + 1, m + len, by go_num, by go_num, by omega, Nat.le_refl _, hml, HM', HW⟩
    · have hlz : ¬ (i : Int) < (n : Int) := by omega
      have HE : Hid (m = sizeZ h) := by show _ = _; rw [HM.out, List.take_of_length_le (by rw [HN.out]; omega)]
      go_wp2
      go_ret
      exact ⟨by rw [← HE.out]; rfl, HW.out.symm⟩
#print axioms size_any
end Go.Proofs.YtmkjalpgeljnkaaDoor

/-
  The document's answers on lists of items: what is wrong with them.
-/
namespace Go.Proofs.YtmkjalpgeljnkaaDoor
open Go.RowKit Go.Sort Go.Proofs

theorem in_any (n lo hi : Int) (w : World) : Calls Tryd.prog 26 #[.int .i64 n, .int .i64 lo, .int .i64 hi] w fun e w' => e = .returned (.bool (decide (lo ≤ n) && decide (n ≤ hi))) ∧ w' = w := by
  by_cases h1 : lo ≤ n
  · by_cases h2 : n ≤ hi
    · rw [decide_eq_true h1, decide_eq_true h2]
      go_enter Tryd.func26, Tryd.ntmps26
      go_wp2
      go_ret
      exact ⟨rfl, rfl⟩
    · rw [decide_eq_true h1, decide_eq_false h2]
      go_enter Tryd.func26, Tryd.ntmps26
      go_wp2
      go_ret
      exact ⟨rfl, rfl⟩
  · rw [decide_eq_false h1, Bool.false_and]
    go_enter Tryd.func26, Tryd.ntmps26
    go_wp2
    go_ret
    exact ⟨rfl, rfl⟩
theorem ret_int {a b : Int} (h : a = b) : Ending.returned (.int .i64 b) = .returned (.int .i64 a) := by rw [h]

def outN (xs : Array (Int × Int)) : Int := if anyOut xs then 1 else 0
theorem refItems_many (p : Option Addr) (n cap : Nat) (w : World) (h : 60 < n) (hbig : n ≤ 9223372036854775807) :
    Calls Tryd.prog 14 #[.slice p n cap] w fun e w' => e = .returned (.int .i64 4) ∧ w' = w := by
  have hz : (60 : Int) < (n : Int) := by omega
  go_enter Tryd.func14, Tryd.ntmps14
  go_wp2
  go_ret
  exact ⟨rfl, rfl⟩
theorem refItems_none (p : Option Addr) (cap : Nat) (w : World) :
    Calls Tryd.prog 14 #[.slice p 0 cap] w fun e w' => e = .returned (.int .i64 0) ∧ w' = w := by
  go_enter Tryd.func14, Tryd.ntmps14
  go_wp2
  go_loop [3] (fun i => i = .int .i64 0) (fun _ => 0)
  case atStart => rfl
  case round =>
    subst hrel
    go_wp2
    go_ret
    exact ⟨rfl, rfl⟩
set_option maxHeartbeats 2000000 in
theorem refItems_some (blk off cap n : Nat) (xs : Array (Int × Int)) (w : World) (hx : RdAt w blk off xs) (hn : Hid (xs.size = n)) (hsz : n ≤ 60) :
    Calls Tryd.prog 14 #[.slice (some ⟨blk, off, none⟩) n cap] w fun e w' => e = .returned (.int .i64 (outN xs)) ∧ w' = w := by
  have HX : Aside _ := hx
  clear hx
  go_enter Tryd.func14, Tryd.ntmps14
  go_wp2
  go_loop [3] (fun vi => ∃ i : Nat, vi = .int .i64 i ∧ i ≤ n ∧ Aside (∀ j, j < i → outB xs[j]! = false)) (fun vi => n - (intOf vi).toNat)
  case atStart => exact ⟨0, rfl, Nat.zero_le _, (show Aside _ from fun j hj => by omega)⟩
  case round =>
    obtain ⟨i, rfl, hin, HO⟩ := hrel
    by_cases hlt : i < n
    · have hlz : (i : Int) < (n : Int) := by omega
      obtain ⟨x, y, hxy⟩ : ∃ x y, xs[i]! = (x, y) := ⟨_, _, rfl⟩
      obtain ⟨c0, c1⟩ := HX.out.2 i (by rw [hn.out]; exact hlt)
      rw [hxy] at c0 c1
      have HXY : Hid (xs[i]! = (x, y)) := hxy
      clear hxy
      have k1 := in_any x (-1000000) 1000000 w
      have k2 := in_any y 0 1000000 w
      by_cases h1 : -1000000 ≤ x ∧ x ≤ 1000000
      · rw [decide_eq_true h1.1, decide_eq_true h1.2] at k1
        by_cases h2 : 0 ≤ y ∧ y ≤ 1000000
        · rw [decide_eq_true h2.1, decide_eq_true h2.2] at k2
          have HF : Hid (outB (x, y) = false) := decide_eq_false (by simp only; omega)
          clear h1 h2
          go_wp2_with fail
          refine k1.mono ?_
          rintro e w1 ⟨rfl, rfl⟩
          go_wp2_with fail
          refine k2.mono ?_
          rintro e w1 ⟨rfl, rfl⟩
          go_wp2
          go_round
          case rel =>
            refine ⟨i + 1, by go_num, by omega, (show Aside _ from fun j hj => ?_)⟩
            rcases Nat.lt_or_ge j i with c | c
            · exact HO.out j c
            · obtain rfl : j = i := by omega
              rw [HXY.out]; exact HF.out
          case measure => simp [intOf]; omega
        · have e2 : (decide (0 ≤ y) && decide (y ≤ 1000000)) = false := by simpa using h2
          rw [e2] at k2
          have hany : anyOut xs = true := anyOut_true (k := i) (by rw [hn.out]; exact hlt) (by rw [HXY.out]; exact decide_eq_true (by simp only; omega))
          have HA : Hid (outN xs = 1) := by show _ = _; unfold outN; rw [hany]; rfl
          clear h1 h2 e2 hany
          go_wp2_with fail
          refine k1.mono ?_
          rintro e w1 ⟨rfl, rfl⟩
          go_wp2_with fail
          refine k2.mono ?_
          rintro e w1 ⟨rfl, rfl⟩
          go_wp2
          go_ret
          exact ⟨ret_int HA.out, rfl⟩
      · have e1 : (decide (-1000000 ≤ x) && decide (x ≤ 1000000)) = false := by simpa using h1
        rw [e1] at k1
        have hany : anyOut xs = true := anyOut_true (k := i) (by rw [hn.out]; exact hlt) (by rw [HXY.out]; exact decide_eq_true (by simp only; omega))
        have HA : Hid (outN xs = 1) := by show _ = _; unfold outN; rw [hany]; rfl
        clear h1 e1 hany
        go_wp2_with fail
        refine k1.mono ?_
        rintro e w1 ⟨rfl, rfl⟩
        go_wp2
        go_ret
        exact ⟨ret_int HA.out, rfl⟩
    · have hlz : ¬ (i : Int) < (n : Int) := by omega
      have hany : anyOut xs = false := anyOut_false fun j hj => HO.out j (by rw [hn.out] at hj; omega)
      have HA : Hid (outN xs = 0) := by show _ = _; unfold outN; rw [hany]; rfl
      clear hany
      go_wp2
      go_ret
      exact ⟨ret_int HA.out, rfl⟩
theorem refItems_any (v : Value) (xs : Array (Int × Int)) (w : World) (h : Sl w v xs) (hbig : xs.size ≤ 9223372036854775807) :
    Calls Tryd.prog 14 #[v] w fun e w' => e = .returned (.int .i64 (wrong xs : Nat)) ∧ w' = w := by
  obtain ⟨p, cap, rfl, _, hp⟩ := h
  unfold wrong
  by_cases h60 : 60 < xs.size
  · rw [if_pos h60]; exact refItems_many p _ cap w h60 hbig
  · rw [if_neg h60]
    rcases hp with hp | ⟨blk, off, rfl, hr⟩
    · rw [show anyOut xs = false from anyOut_false fun i hi => by omega, hp]; exact refItems_none p cap w
    · have := refItems_some blk off cap xs.size xs w hr rfl (by omega)
      unfold outN at this
      cases h : anyOut xs <;> rw [h] at this <;> exact this
end Go.Proofs.YtmkjalpgeljnkaaDoor

/-
  The document's heaps of trees: what is wrong with one.
-/
namespace Go.Proofs.YtmkjalpgeljnkaaDoor
open Go.RowKit Go.Sort Go.Proofs

/-- What is wrong with ranks and sizes, tree by tree. -/
def rankE : Int → List (Int × List (Int × Int)) → Nat
  | _, [] => 0
  | last, (r, l) :: h => if r < 0 ∨ 5 < r then 1 else if r ≤ last ∨ l.length ≠ 2 ^ r.toNat then 3 else rankE r h
def outE (h : List (Int × List (Int × Int))) : Nat := if h.any (fun t => t.2.any outB) then 1 else 0
/-- No key is less than that of the root above it. -/
def keysB (t : Int × List (Int × Int)) : Bool := (List.range (t.2.length - 1)).all fun k => decide (keyL t.2 (aboveK t.1.toNat 0 1 (k + 1)) ≤ keyL t.2 (k + 1))
def keysE (h : List (Int × List (Int × Int))) : Nat := if h.all keysB then 0 else 3
/-- What is wrong with a heap of trees. -/
def binoE (h : List (Int × List (Int × Int))) : Nat := if rankE (-1) h = 0 then (if outE h = 0 then (if 60 < sizeZ h then 4 else keysE h) else outE h) else rankE (-1) h
theorem rankE_cons {last r : Int} {l : List (Int × Int)} {h : List (Int × List (Int × Int))} (h1 : ¬ (r < 0 ∨ 5 < r)) (h2 : ¬ (r ≤ last ∨ l.length ≠ 2 ^ r.toNat)) : rankE last ((r, l) :: h) = rankE r h := by simp only [rankE]; rw [if_neg h1, if_neg h2]
theorem drop_get {h : List (Int × List (Int × Int))} {i : Nat} {x : Int × List (Int × Int)} (hx : h[i]? = some x) : h.drop i = x :: h.drop (i + 1) := by
  obtain ⟨hi, e⟩ := List.getElem?_eq_some_iff.1 hx
  rw [List.drop_eq_getElem_cons hi, e]
/-- What the first loop knows. -/
structure Ranks (h : List (Int × List (Int × Int))) (i : Nat) (last : Int) (all : Nat) : Prop where
  eq : rankE (-1) h = rankE last (h.drop i)
  low : (i : Int) - 1 ≤ last
  high : last ≤ 5
  sum : all = sizeZ (h.take i)
  le : all ≤ 32 * i
  each : ∀ t ∈ h.take i, 0 ≤ t.1 ∧ t.1 ≤ 5 ∧ t.2.length = 2 ^ t.1.toNat
theorem Ranks.start (h : List (Int × List (Int × Int))) : Ranks h 0 (-1) 0 := ⟨by simp, by omega, by omega, by simp [sizeZ], by omega, fun t ht => by simp at ht⟩
theorem Ranks.step {h : List (Int × List (Int × Int))} {i all : Nat} {last r : Int} {l : List (Int × Int)} (H : Ranks h i last all) (hx : h[i]? = some (r, l)) (h1 : ¬ (r < 0 ∨ 5 < r)) (h2 : ¬ (r ≤ last ∨ l.length ≠ 2 ^ r.toNat)) : Ranks h (i + 1) r (all + l.length) := by
  have hl : l.length = 2 ^ r.toNat := by
    rcases Nat.decEq l.length (2 ^ r.toNat) with q | q
    · exact absurd (Or.inr q) h2
    · exact q
  have hle : l.length ≤ 32 := by rw [hl]; exact Nat.pow_le_pow_right (show 0 < 2 by omega) (show r.toNat ≤ 5 by omega)
  have hlow := H.low
  have hall := H.le
  refine ⟨?_, by omega, by omega, ?_, by omega, fun t ht => ?_⟩
  · rw [H.eq, drop_get hx, rankE_cons h1 h2]
  · rw [sizeZ_take_succ hx, H.sum]
  · obtain ⟨hi, e⟩ := List.getElem?_eq_some_iff.1 hx
    rw [List.take_succ_eq_append_getElem hi, e] at ht
    rcases List.mem_append.1 ht with q | q
    · exact H.each t q
    · rw [List.mem_singleton.1 q]; exact ⟨by omega, by omega, hl⟩
theorem Ranks.bad1 {h : List (Int × List (Int × Int))} {i all : Nat} {last r : Int} {l : List (Int × Int)} (H : Ranks h i last all) (hx : h[i]? = some (r, l)) (h1 : r < 0 ∨ 5 < r) : binoE h = 1 := by
  have e : rankE (-1) h = 1 := by rw [H.eq, drop_get hx]; simp only [rankE]; rw [if_pos h1]
  unfold binoE; rw [e]; rfl
theorem Ranks.bad3 {h : List (Int × List (Int × Int))} {i all : Nat} {last r : Int} {l : List (Int × Int)} (H : Ranks h i last all) (hx : h[i]? = some (r, l)) (h1 : ¬ (r < 0 ∨ 5 < r)) (h2 : r ≤ last ∨ l.length ≠ 2 ^ r.toNat) : binoE h = 3 := by
  have e : rankE (-1) h = 3 := by rw [H.eq, drop_get hx]; simp only [rankE]; rw [if_neg h1, if_pos h2]
  unfold binoE; rw [e]; rfl
theorem Ranks.ok {h : List (Int × List (Int × Int))} {all : Nat} {last : Int} (H : Ranks h h.length last all) : rankE (-1) h = 0 ∧ all = sizeZ h ∧ h.length ≤ 6 ∧ ∀ t ∈ h, 0 ≤ t.1 ∧ t.1 ≤ 5 ∧ t.2.length = 2 ^ t.1.toNat := by
  have e := H.each
  have a := H.sum
  rw [List.take_of_length_le (Nat.le_refl _)] at e a
  exact ⟨by rw [H.eq, List.drop_length]; rfl, a, by have := H.low; have := H.high; omega, e⟩

theorem outE_bad {h : List (Int × List (Int × Int))} {i : Nat} {r : Int} {l : List (Int × Int)} (h0 : rankE (-1) h = 0) (hx : h[i]? = some (r, l)) (ho : anyOut l.toArray = true) : binoE h = 1 := by
  have e : outE h = 1 := by
    unfold outE
    rw [if_pos]
    rw [List.any_eq_true]
    exact ⟨(r, l), List.mem_of_getElem? hx, by unfold anyOut at ho; simpa using ho⟩
  unfold binoE; rw [if_pos h0, e]; rfl
theorem outE_good {h : List (Int × List (Int × Int))} (ho : ∀ t ∈ h, anyOut t.2.toArray = false) : outE h = 0 := by
  unfold outE
  rw [if_neg]
  rw [List.any_eq_true]
  rintro ⟨t, ht, e⟩
  have := ho t ht
  unfold anyOut at this
  simp only [List.any_eq_true] at e
  obtain ⟨x, hx, e⟩ := e
  rw [List.any_eq_false] at this
  exact this x (by simpa using hx) e
theorem keysB_bad {r : Int} {l : List (Int × Int)} {k : Nat} (h1 : 1 ≤ k) (h2 : k < l.length) (h : keyL l k < keyL l (aboveK r.toNat 0 1 k)) : keysB (r, l) = false := by
  cases e : keysB (r, l)
  · rfl
  · unfold keysB at e
    rw [List.all_eq_true] at e
    have := of_decide_eq_true (e (k - 1) (List.mem_range.2 (by simp only; omega)))
    rw [show k - 1 + 1 = k by omega] at this
    simp only at this
    omega
theorem keysB_good {r : Int} {l : List (Int × Int)} (h : ∀ k, 1 ≤ k → k < l.length → ¬ keyL l k < keyL l (aboveK r.toNat 0 1 k)) : keysB (r, l) = true := by
  unfold keysB
  rw [List.all_eq_true]
  intro k hk
  have := h (k + 1) (by omega) (by have := List.mem_range.1 hk; simp only at this; omega)
  exact decide_eq_true (by simp only; omega)
theorem keysE_bad {h : List (Int × List (Int × Int))} {i : Nat} {t : Int × List (Int × Int)} (h0 : rankE (-1) h = 0) (h1 : outE h = 0) (h2 : ¬ 60 < sizeZ h) (hx : h[i]? = some t) (hk : keysB t = false) : binoE h = 3 := by
  have e : keysE h = 3 := by
    unfold keysE
    rw [if_neg]
    rw [List.all_eq_true]
    intro q
    rw [q t (List.mem_of_getElem? hx)] at hk
    cases hk
  unfold binoE; rw [if_pos h0, if_pos h1, if_neg h2, e]
theorem binoE_good {h : List (Int × List (Int × Int))} (h0 : rankE (-1) h = 0) (h1 : outE h = 0) (h2 : ¬ 60 < sizeZ h) (hk : ∀ t ∈ h, keysB t = true) : binoE h = 0 := by
  unfold binoE; rw [if_pos h0, if_pos h1, if_neg h2]; unfold keysE; rw [if_pos (List.all_eq_true.2 hk)]
theorem keyL_arr {l : List (Int × Int)} {k : Nat} (h : k < l.length) : l.toArray[k]!.1 = keyL l k := by
  rw [getElem!_pos _ k (by simpa using h)]
  unfold keyL
  rw [List.getElem?_eq_getElem h]
  simp
theorem aboveK_lt : ∀ (r root from_ k : Nat), root < k → from_ ≤ k → aboveK r root from_ k < k ∨ aboveK r root from_ k = root
  | 0, _, _, _, _, _ => Or.inr rfl
  | r + 1, root, from_, k, h1, h2 => by
    simp only [aboveK]
    by_cases q : from_ + 2 ^ r ≤ k
    · rw [if_pos q]; exact aboveK_lt r root _ k h1 q
    · rw [if_neg q]
      by_cases e : k = from_
      · rw [if_pos e]; exact Or.inr rfl
      · rw [if_neg e]
        rcases aboveK_lt r from_ (from_ + 1) k (by omega) (by omega) with a | a
        · exact Or.inl a
        · rw [a]; exact Or.inl (by omega)
theorem aboveK_small (r : Nat) {k : Nat} (h : 1 ≤ k) : aboveK r 0 1 k < k := by
  rcases aboveK_lt r 0 1 k h h with a | a
  · exact a
  · omega
end Go.Proofs.YtmkjalpgeljnkaaDoor

/-
  The document's heaps of trees: two trees linked.
-/
namespace Go.Proofs.YtmkjalpgeljnkaaDoor
open Go.RowKit Go.Sort Go.Proofs

set_option maxHeartbeats 4000000 in
theorem link_S1 (ba oa na ca bb ob nb cb : Nat) (x0 x1 y0 y1 : Int) (a b : List (Int × Int)) (w : World) (ha60 : na ≤ 1000) (hb60 : nb ≤ 1000) (hna : 0 < na) (hnb : 0 < nb) (hone : cb = 1) (hx : y0 < x0) (HNA : Hid (a.length + 1 = na)) (HNB : Hid (b.length + 1 = nb)) (hca : na ≤ ca) (hcb : nb ≤ cb)
    (HA : Hid (RdAt w ba oa ((x0, x1) :: a).toArray)) (HB : Hid (RdAt w bb ob ((y0, y1) :: b).toArray)) :
    Calls Tryd.prog 33 #[.slice (some ⟨ba, oa, none⟩) na ca, .slice (some ⟨bb, ob, none⟩) nb cb] w fun e w' => ∃ u, e = .returned u ∧ OwnI w' w.heap.size u ((y0, y1) :: (((x0, x1) :: a) ++ b)) ∧ Below w.heap.size w w' := by
  subst hone
  obtain rfl : nb = 1 := by omega
  have hzA : (0 : Int) < (na : Int) := by omega
  have hzB : (0 : Int) < (1 : Int) := by omega
  have hz1 : (1 : Int) ≤ (1 : Int) := by omega
  have hd : decide (y0 < x0) = true := decide_eq_true hx
  obtain ⟨a0, a1⟩ := HA.out.2 0 (by simp)
  obtain ⟨b0, b1⟩ := HB.out.2 0 (by simp)
  simp only [Nat.zero_mul, Nat.add_zero] at a0 a1 b0 b1
  have a0' : w.cell? ⟨ba, oa, none⟩ = some (.int .i64 x0) := a0
  have a1' : w.cell? ⟨ba, oa + 1, none⟩ = some (.int .i64 x1) := a1
  have b0' : w.cell? ⟨bb, ob, none⟩ = some (.int .i64 y0) := b0
  have b1' : w.cell? ⟨bb, ob + 1, none⟩ = some (.int .i64 y1) := b1
  clear a0 a1 b0 b1
  have HSA : Hid (Sl w (.slice (some ⟨ba, oa, none⟩) na ca) ((x0, x1) :: a).toArray) := by
    show Sl _ _ _; have := Sl.of_rd (cap := ca) HA.out (by rw [List.size_toArray, List.length_cons, HNA.out]; omega); rw [show ((x0, x1) :: a).toArray.size = na by rw [List.size_toArray, List.length_cons]; exact HNA.out] at this; exact this
  have HSB : Hid (Sl w (.slice (some ⟨bb, ob, none⟩) 1 1) ((y0, y1) :: b).toArray) := by
    show Sl _ _ _; have := Sl.of_rd (cap := 1) HB.out (by rw [List.size_toArray, List.length_cons, HNB.out]; omega); rw [show ((y0, y1) :: b).toArray.size = 1 by rw [List.size_toArray, List.length_cons]; exact HNB.out] at this; exact this
  have HT : Hid (Sl w (.slice (some ⟨bb, ob, none⟩) 0 0) b.toArray) := Sl.empty w _ _ _ b (by have := HNB.out; omega) (by omega)
  go_enter Tryd.func33, Tryd.ntmps33
  go_wp2_with fail
  go_quiet (fail)
  have hq : Below w.heap.size w (w.drewN nq) := below_drewN (Below.refl _ _) nq
  have k0 : (w.drewN nq).cell? ⟨bb, ob, none⟩ = some (.int .i64 y0) := b0'
  have k1 : (w.drewN nq).cell? ⟨bb, ob + 1, none⟩ = some (.int .i64 y1) := b1'
  have hsq : w.heap.size ≤ (w.drewN nq).heap.size := Nat.le_refl _
  clear a0' a1' b0' b1'
  generalize w.drewN nq = wq at hq k0 k1 hsq ⊢
  have hal : Below w.heap.size w (wq.alloc (.cells #[.int .i64 y0, .int .i64 y1] 24)) := hq.alloc hsq _
  go_wp2_with (first | (at_builtin; refine wpList_append_item rfl (.tmp 15) (.tmp 19) rfl w.heap.size (.slice none 0 0) [] (y0, y1) ⟨wq.heap.size, 0, none⟩ 1 rfl (OwnI.nil _ _) rfl (by simp) (by simp [Addr.add]) (by simp) (by simp; omega) ?_; intro v1 w1 hA1 hg1 _; have hb1 : Below w.heap.size w w1 := hal.trans (below_of_grown (OwnI.nil _ _) hg1 (Nat.le_refl _) (by simp; omega)); have HA1 : Hid (OwnI w1 w.heap.size v1 ([] ++ [(y0, y1)])) := hA1; clear hA1 hg1) | (at_builtin; refine wpList_append_sl rfl (.tmp 21) (.tmp 22) rfl w.heap.size v1 _ _ ((x0, x1) :: a).toArray rfl rfl HA1.out (HSA.out.below hb1) (by simp; have h1 := HNA.out; have h2 := HNB.out; omega) hb1.size ?_; intro v2 w2 hA2 hg2; have hb2 : Below w.heap.size w w2 := hb1.trans (below_of_grown HA1.out hg2 (Nat.le_refl _) hb1.size); have HA2 : Hid (OwnI w2 w.heap.size v2 (([] ++ [(y0, y1)]) ++ ((x0, x1) :: a).toArray.toList)) := hA2; clear hA2 hg2) | (at_builtin; refine wpList_append_sl rfl (.tmp 24) (.tmp 26) rfl w.heap.size v2 _ _ b.toArray rfl rfl HA2.out (HT.out.below hb2) (by simp; have h1 := HNA.out; have h2 := HNB.out; omega) hb2.size ?_; intro v3 w3 hA3 hg3; have hb3 : Below w.heap.size w w3 := hb2.trans (below_of_grown HA2.out hg3 (Nat.le_refl _) hb2.size); have HA3 : Hid (OwnI w3 w.heap.size v3 ((([] ++ [(y0, y1)]) ++ ((x0, x1) :: a).toArray.toList) ++ b.toArray.toList)) := hA3; clear hA3 hg3))
  go_ret
  exact ⟨_, rfl, by simpa using HA3.out, hb3⟩
set_option maxHeartbeats 4000000 in
theorem link_S2 (ba oa na ca bb ob nb cb : Nat) (x0 x1 y0 y1 : Int) (a b : List (Int × Int)) (w : World) (ha60 : na ≤ 1000) (hb60 : nb ≤ 1000) (hna : 0 < na) (hnb : 0 < nb) (hone : cb ≠ 1) (hx : y0 < x0) (HNA : Hid (a.length + 1 = na)) (HNB : Hid (b.length + 1 = nb)) (hca : na ≤ ca) (hcb : nb ≤ cb)
    (HA : Hid (RdAt w ba oa ((x0, x1) :: a).toArray)) (HB : Hid (RdAt w bb ob ((y0, y1) :: b).toArray)) :
    Calls Tryd.prog 33 #[.slice (some ⟨ba, oa, none⟩) na ca, .slice (some ⟨bb, ob, none⟩) nb cb] w fun e w' => ∃ u, e = .returned u ∧ OwnI w' w.heap.size u ((y0, y1) :: (((x0, x1) :: a) ++ b)) ∧ Below w.heap.size w w' := by
  have hzA : (0 : Int) < (na : Int) := by omega
  have hzB : (0 : Int) < (nb : Int) := by omega
  have hz1 : (1 : Int) ≤ (nb : Int) := by omega
  have hd : decide (y0 < x0) = true := decide_eq_true hx
  obtain ⟨a0, a1⟩ := HA.out.2 0 (by simp)
  obtain ⟨b0, b1⟩ := HB.out.2 0 (by simp)
  simp only [Nat.zero_mul, Nat.add_zero] at a0 a1 b0 b1
  have a0' : w.cell? ⟨ba, oa, none⟩ = some (.int .i64 x0) := a0
  have a1' : w.cell? ⟨ba, oa + 1, none⟩ = some (.int .i64 x1) := a1
  have b0' : w.cell? ⟨bb, ob, none⟩ = some (.int .i64 y0) := b0
  have b1' : w.cell? ⟨bb, ob + 1, none⟩ = some (.int .i64 y1) := b1
  clear a0 a1 b0 b1
  have HSA : Hid (Sl w (.slice (some ⟨ba, oa, none⟩) na ca) ((x0, x1) :: a).toArray) := by
    show Sl _ _ _; have := Sl.of_rd (cap := ca) HA.out (by rw [List.size_toArray, List.length_cons, HNA.out]; omega); rw [show ((x0, x1) :: a).toArray.size = na by rw [List.size_toArray, List.length_cons]; exact HNA.out] at this; exact this
  have HSB : Hid (Sl w (.slice (some ⟨bb, ob, none⟩) nb cb) ((y0, y1) :: b).toArray) := by
    show Sl _ _ _; have := Sl.of_rd (cap := cb) HB.out (by rw [List.size_toArray, List.length_cons, HNB.out]; omega); rw [show ((y0, y1) :: b).toArray.size = nb by rw [List.size_toArray, List.length_cons]; exact HNB.out] at this; exact this
  have HT : Hid (Sl w (.slice (some ⟨bb, ob + 2, none⟩) (nb - 1) (cb - 1)) b.toArray) := Sl.tail HB.out HNB.out hcb
  go_enter Tryd.func33, Tryd.ntmps33
  go_wp2_with fail
  go_quiet (fail)
  have hq : Below w.heap.size w (w.drewN nq) := below_drewN (Below.refl _ _) nq
  have k0 : (w.drewN nq).cell? ⟨bb, ob, none⟩ = some (.int .i64 y0) := b0'
  have k1 : (w.drewN nq).cell? ⟨bb, ob + 1, none⟩ = some (.int .i64 y1) := b1'
  have hsq : w.heap.size ≤ (w.drewN nq).heap.size := Nat.le_refl _
  clear a0' a1' b0' b1'
  generalize w.drewN nq = wq at hq k0 k1 hsq ⊢
  have hal : Below w.heap.size w (wq.alloc (.cells #[.int .i64 y0, .int .i64 y1] 24)) := hq.alloc hsq _
  go_wp2_with (first | (at_builtin; refine wpList_append_item rfl (.tmp 15) (.tmp 19) rfl w.heap.size (.slice none 0 0) [] (y0, y1) ⟨wq.heap.size, 0, none⟩ 1 rfl (OwnI.nil _ _) rfl (by simp) (by simp [Addr.add]) (by simp) (by simp; omega) ?_; intro v1 w1 hA1 hg1 _; have hb1 : Below w.heap.size w w1 := hal.trans (below_of_grown (OwnI.nil _ _) hg1 (Nat.le_refl _) (by simp; omega)); have HA1 : Hid (OwnI w1 w.heap.size v1 ([] ++ [(y0, y1)])) := hA1; clear hA1 hg1) | (at_builtin; refine wpList_append_sl rfl (.tmp 21) (.tmp 22) rfl w.heap.size v1 _ _ ((x0, x1) :: a).toArray rfl rfl HA1.out (HSA.out.below hb1) (by simp; have h1 := HNA.out; have h2 := HNB.out; omega) hb1.size ?_; intro v2 w2 hA2 hg2; have hb2 : Below w.heap.size w w2 := hb1.trans (below_of_grown HA1.out hg2 (Nat.le_refl _) hb1.size); have HA2 : Hid (OwnI w2 w.heap.size v2 (([] ++ [(y0, y1)]) ++ ((x0, x1) :: a).toArray.toList)) := hA2; clear hA2 hg2) | (at_builtin; refine wpList_append_sl rfl (.tmp 24) (.tmp 26) rfl w.heap.size v2 _ _ b.toArray rfl rfl HA2.out (HT.out.below hb2) (by simp; have h1 := HNA.out; have h2 := HNB.out; omega) hb2.size ?_; intro v3 w3 hA3 hg3; have hb3 : Below w.heap.size w w3 := hb2.trans (below_of_grown HA2.out hg3 (Nat.le_refl _) hb2.size); have HA3 : Hid (OwnI w3 w.heap.size v3 ((([] ++ [(y0, y1)]) ++ ((x0, x1) :: a).toArray.toList) ++ b.toArray.toList)) := hA3; clear hA3 hg3))
  go_ret
  exact ⟨_, rfl, by simpa using HA3.out, hb3⟩
set_option maxHeartbeats 4000000 in
theorem link_F1 (ba oa na ca bb ob nb cb : Nat) (x0 x1 y0 y1 : Int) (a b : List (Int × Int)) (w : World) (ha60 : na ≤ 1000) (hb60 : nb ≤ 1000) (hna : 0 < na) (hnb : 0 < nb) (hone : ca = 1) (hx : ¬ y0 < x0) (HNA : Hid (a.length + 1 = na)) (HNB : Hid (b.length + 1 = nb)) (hca : na ≤ ca) (hcb : nb ≤ cb)
    (HA : Hid (RdAt w ba oa ((x0, x1) :: a).toArray)) (HB : Hid (RdAt w bb ob ((y0, y1) :: b).toArray)) :
    Calls Tryd.prog 33 #[.slice (some ⟨ba, oa, none⟩) na ca, .slice (some ⟨bb, ob, none⟩) nb cb] w fun e w' => ∃ u, e = .returned u ∧ OwnI w' w.heap.size u ((x0, x1) :: (((y0, y1) :: b) ++ a)) ∧ Below w.heap.size w w' := by
  subst hone
  obtain rfl : na = 1 := by omega
  have hzA : (0 : Int) < (1 : Int) := by omega
  have hzB : (0 : Int) < (nb : Int) := by omega
  have hz1 : (1 : Int) ≤ (1 : Int) := by omega
  have hd : decide (y0 < x0) = false := decide_eq_false hx
  obtain ⟨a0, a1⟩ := HA.out.2 0 (by simp)
  obtain ⟨b0, b1⟩ := HB.out.2 0 (by simp)
  simp only [Nat.zero_mul, Nat.add_zero] at a0 a1 b0 b1
  have a0' : w.cell? ⟨ba, oa, none⟩ = some (.int .i64 x0) := a0
  have a1' : w.cell? ⟨ba, oa + 1, none⟩ = some (.int .i64 x1) := a1
  have b0' : w.cell? ⟨bb, ob, none⟩ = some (.int .i64 y0) := b0
  have b1' : w.cell? ⟨bb, ob + 1, none⟩ = some (.int .i64 y1) := b1
  clear a0 a1 b0 b1
  have HSA : Hid (Sl w (.slice (some ⟨ba, oa, none⟩) 1 1) ((x0, x1) :: a).toArray) := by
    show Sl _ _ _; have := Sl.of_rd (cap := 1) HA.out (by rw [List.size_toArray, List.length_cons, HNA.out]; omega); rw [show ((x0, x1) :: a).toArray.size = 1 by rw [List.size_toArray, List.length_cons]; exact HNA.out] at this; exact this
  have HSB : Hid (Sl w (.slice (some ⟨bb, ob, none⟩) nb cb) ((y0, y1) :: b).toArray) := by
    show Sl _ _ _; have := Sl.of_rd (cap := cb) HB.out (by rw [List.size_toArray, List.length_cons, HNB.out]; omega); rw [show ((y0, y1) :: b).toArray.size = nb by rw [List.size_toArray, List.length_cons]; exact HNB.out] at this; exact this
  have HT : Hid (Sl w (.slice (some ⟨ba, oa, none⟩) 0 0) a.toArray) := Sl.empty w _ _ _ a (by have := HNA.out; omega) (by omega)
  go_enter Tryd.func33, Tryd.ntmps33
  go_wp2_with fail
  go_quiet (fail)
  have hq : Below w.heap.size w (w.drewN nq) := below_drewN (Below.refl _ _) nq
  have k0 : (w.drewN nq).cell? ⟨ba, oa, none⟩ = some (.int .i64 x0) := a0'
  have k1 : (w.drewN nq).cell? ⟨ba, oa + 1, none⟩ = some (.int .i64 x1) := a1'
  have hsq : w.heap.size ≤ (w.drewN nq).heap.size := Nat.le_refl _
  clear a0' a1' b0' b1'
  generalize w.drewN nq = wq at hq k0 k1 hsq ⊢
  have hal : Below w.heap.size w (wq.alloc (.cells #[.int .i64 x0, .int .i64 x1] 24)) := hq.alloc hsq _
  go_wp2_with (first | (at_builtin; refine wpList_append_item rfl (.tmp 28) (.tmp 32) rfl w.heap.size (.slice none 0 0) [] (x0, x1) ⟨wq.heap.size, 0, none⟩ 1 rfl (OwnI.nil _ _) rfl (by simp) (by simp [Addr.add]) (by simp) (by simp; omega) ?_; intro v1 w1 hA1 hg1 _; have hb1 : Below w.heap.size w w1 := hal.trans (below_of_grown (OwnI.nil _ _) hg1 (Nat.le_refl _) (by simp; omega)); have HA1 : Hid (OwnI w1 w.heap.size v1 ([] ++ [(x0, x1)])) := hA1; clear hA1 hg1) | (at_builtin; refine wpList_append_sl rfl (.tmp 34) (.tmp 35) rfl w.heap.size v1 _ _ ((y0, y1) :: b).toArray rfl rfl HA1.out (HSB.out.below hb1) (by simp; have h1 := HNA.out; have h2 := HNB.out; omega) hb1.size ?_; intro v2 w2 hA2 hg2; have hb2 : Below w.heap.size w w2 := hb1.trans (below_of_grown HA1.out hg2 (Nat.le_refl _) hb1.size); have HA2 : Hid (OwnI w2 w.heap.size v2 (([] ++ [(x0, x1)]) ++ ((y0, y1) :: b).toArray.toList)) := hA2; clear hA2 hg2) | (at_builtin; refine wpList_append_sl rfl (.tmp 37) (.tmp 39) rfl w.heap.size v2 _ _ a.toArray rfl rfl HA2.out (HT.out.below hb2) (by simp; have h1 := HNA.out; have h2 := HNB.out; omega) hb2.size ?_; intro v3 w3 hA3 hg3; have hb3 : Below w.heap.size w w3 := hb2.trans (below_of_grown HA2.out hg3 (Nat.le_refl _) hb2.size); have HA3 : Hid (OwnI w3 w.heap.size v3 ((([] ++ [(x0, x1)]) ++ ((y0, y1) :: b).toArray.toList) ++ a.toArray.toList)) := hA3; clear hA3 hg3))
  go_ret
  exact ⟨_, rfl, by simpa using HA3.out, hb3⟩
set_option maxHeartbeats 4000000 in
theorem link_F2 (ba oa na ca bb ob nb cb : Nat) (x0 x1 y0 y1 : Int) (a b : List (Int × Int)) (w : World) (ha60 : na ≤ 1000) (hb60 : nb ≤ 1000) (hna : 0 < na) (hnb : 0 < nb) (hone : ca ≠ 1) (hx : ¬ y0 < x0) (HNA : Hid (a.length + 1 = na)) (HNB : Hid (b.length + 1 = nb)) (hca : na ≤ ca) (hcb : nb ≤ cb)
    (HA : Hid (RdAt w ba oa ((x0, x1) :: a).toArray)) (HB : Hid (RdAt w bb ob ((y0, y1) :: b).toArray)) :
    Calls Tryd.prog 33 #[.slice (some ⟨ba, oa, none⟩) na ca, .slice (some ⟨bb, ob, none⟩) nb cb] w fun e w' => ∃ u, e = .returned u ∧ OwnI w' w.heap.size u ((x0, x1) :: (((y0, y1) :: b) ++ a)) ∧ Below w.heap.size w w' := by
  have hzA : (0 : Int) < (na : Int) := by omega
  have hzB : (0 : Int) < (nb : Int) := by omega
  have hz1 : (1 : Int) ≤ (na : Int) := by omega
  have hd : decide (y0 < x0) = false := decide_eq_false hx
  obtain ⟨a0, a1⟩ := HA.out.2 0 (by simp)
  obtain ⟨b0, b1⟩ := HB.out.2 0 (by simp)
  simp only [Nat.zero_mul, Nat.add_zero] at a0 a1 b0 b1
  have a0' : w.cell? ⟨ba, oa, none⟩ = some (.int .i64 x0) := a0
  have a1' : w.cell? ⟨ba, oa + 1, none⟩ = some (.int .i64 x1) := a1
  have b0' : w.cell? ⟨bb, ob, none⟩ = some (.int .i64 y0) := b0
  have b1' : w.cell? ⟨bb, ob + 1, none⟩ = some (.int .i64 y1) := b1
  clear a0 a1 b0 b1
  have HSA : Hid (Sl w (.slice (some ⟨ba, oa, none⟩) na ca) ((x0, x1) :: a).toArray) := by
    show Sl _ _ _; have := Sl.of_rd (cap := ca) HA.out (by rw [List.size_toArray, List.length_cons, HNA.out]; omega); rw [show ((x0, x1) :: a).toArray.size = na by rw [List.size_toArray, List.length_cons]; exact HNA.out] at this; exact this
  have HSB : Hid (Sl w (.slice (some ⟨bb, ob, none⟩) nb cb) ((y0, y1) :: b).toArray) := by
    show Sl _ _ _; have := Sl.of_rd (cap := cb) HB.out (by rw [List.size_toArray, List.length_cons, HNB.out]; omega); rw [show ((y0, y1) :: b).toArray.size = nb by rw [List.size_toArray, List.length_cons]; exact HNB.out] at this; exact this
  have HT : Hid (Sl w (.slice (some ⟨ba, oa + 2, none⟩) (na - 1) (ca - 1)) a.toArray) := Sl.tail HA.out HNA.out hca
  go_enter Tryd.func33, Tryd.ntmps33
  go_wp2_with fail
  go_quiet (fail)
  have hq : Below w.heap.size w (w.drewN nq) := below_drewN (Below.refl _ _) nq
  have k0 : (w.drewN nq).cell? ⟨ba, oa, none⟩ = some (.int .i64 x0) := a0'
  have k1 : (w.drewN nq).cell? ⟨ba, oa + 1, none⟩ = some (.int .i64 x1) := a1'
  have hsq : w.heap.size ≤ (w.drewN nq).heap.size := Nat.le_refl _
  clear a0' a1' b0' b1'
  generalize w.drewN nq = wq at hq k0 k1 hsq ⊢
  have hal : Below w.heap.size w (wq.alloc (.cells #[.int .i64 x0, .int .i64 x1] 24)) := hq.alloc hsq _
  go_wp2_with (first | (at_builtin; refine wpList_append_item rfl (.tmp 28) (.tmp 32) rfl w.heap.size (.slice none 0 0) [] (x0, x1) ⟨wq.heap.size, 0, none⟩ 1 rfl (OwnI.nil _ _) rfl (by simp) (by simp [Addr.add]) (by simp) (by simp; omega) ?_; intro v1 w1 hA1 hg1 _; have hb1 : Below w.heap.size w w1 := hal.trans (below_of_grown (OwnI.nil _ _) hg1 (Nat.le_refl _) (by simp; omega)); have HA1 : Hid (OwnI w1 w.heap.size v1 ([] ++ [(x0, x1)])) := hA1; clear hA1 hg1) | (at_builtin; refine wpList_append_sl rfl (.tmp 34) (.tmp 35) rfl w.heap.size v1 _ _ ((y0, y1) :: b).toArray rfl rfl HA1.out (HSB.out.below hb1) (by simp; have h1 := HNA.out; have h2 := HNB.out; omega) hb1.size ?_; intro v2 w2 hA2 hg2; have hb2 : Below w.heap.size w w2 := hb1.trans (below_of_grown HA1.out hg2 (Nat.le_refl _) hb1.size); have HA2 : Hid (OwnI w2 w.heap.size v2 (([] ++ [(x0, x1)]) ++ ((y0, y1) :: b).toArray.toList)) := hA2; clear hA2 hg2) | (at_builtin; refine wpList_append_sl rfl (.tmp 37) (.tmp 39) rfl w.heap.size v2 _ _ a.toArray rfl rfl HA2.out (HT.out.below hb2) (by simp; have h1 := HNA.out; have h2 := HNB.out; omega) hb2.size ?_; intro v3 w3 hA3 hg3; have hb3 : Below w.heap.size w w3 := hb2.trans (below_of_grown HA2.out hg3 (Nat.le_refl _) hb2.size); have HA3 : Hid (OwnI w3 w.heap.size v3 ((([] ++ [(x0, x1)]) ++ ((y0, y1) :: b).toArray.toList) ++ a.toArray.toList)) := hA3; clear hA3 hg3))
  go_ret
  exact ⟨_, rfl, by simpa using HA3.out, hb3⟩
theorem link_any (va vb : Value) (A B : List (Int × Int)) (w : World) (hA : A ≠ []) (hB : B ≠ []) (hla : A.length ≤ 1000) (hlb : B.length ≤ 1000) (ha : Sl w va A.toArray) (hb : Sl w vb B.toArray) :
    Calls Tryd.prog 33 #[va, vb] w fun e w' => ∃ u, e = .returned u ∧ OwnI w' w.heap.size u (linkL A B) ∧ Below w.heap.size w w' := by
  obtain ⟨pa, ca, rfl, hca, h0 | ⟨ba, oa, rfl, hra⟩⟩ := ha
  · simp at h0; exact absurd h0 hA
  obtain ⟨pb, cb, rfl, hcb, h0 | ⟨bb, ob, rfl, hrb⟩⟩ := hb
  · simp at h0; exact absurd h0 hB
  cases A with
  | nil => exact absurd rfl hA
  | cons x a =>
    cases B with
    | nil => exact absurd rfl hB
    | cons y b =>
      obtain ⟨x0, x1⟩ := x
      obtain ⟨y0, y1⟩ := y
      simp only [List.size_toArray, List.length_cons] at hca hcb hla hlb ⊢
      unfold linkL
      by_cases h : y0 < x0
      · simp only [if_pos h]
        by_cases hc : cb = 1
        · exact link_S1 ba oa _ ca bb ob _ cb x0 x1 y0 y1 a b w hla hlb (by omega) (by omega) hc h rfl rfl hca hcb hra hrb
        · exact link_S2 ba oa _ ca bb ob _ cb x0 x1 y0 y1 a b w hla hlb (by omega) (by omega) hc h rfl rfl hca hcb hra hrb
      · simp only [if_neg h]
        by_cases hc : ca = 1
        · exact link_F1 ba oa _ ca bb ob _ cb x0 x1 y0 y1 a b w hla hlb (by omega) (by omega) hc h rfl rfl hca hcb hra hrb
        · exact link_F2 ba oa _ ca bb ob _ cb x0 x1 y0 y1 a b w hla hlb (by omega) (by omega) hc h rfl rfl hca hcb hra hrb
#print axioms link_any
end Go.Proofs.YtmkjalpgeljnkaaDoor

/-
  Rows of items that are written to, one item at a time.
-/
namespace Go.Proofs.YtmkjalpgeljnkaaDoor
open Go.RowKit Go.Sort Go.Proofs

/-- The items d lie at blk, off, and may be written. -/
structure WrAt (w : World) (blk off : Nat) (d : Array (Int × Int)) : Prop where
  rd : RdAt w blk off d
  fr : ∀ j, j < d.size * 2 → w.frozen? ⟨blk, off + j, none⟩ = false

theorem WrAt.lt {w : World} {blk off : Nat} {d : Array (Int × Int)} (h : WrAt w blk off d) : blk < w.heap.size := h.rd.1
theorem WrAt.block {w w' : World} {blk off : Nat} {d : Array (Int × Int)} (h : WrAt w blk off d) (hs : w.heap.size ≤ w'.heap.size) (hb : w'.heap[blk]? = w.heap[blk]?) : WrAt w' blk off d :=
  ⟨⟨Nat.lt_of_lt_of_le h.rd.1 hs, fun i hi => ⟨(World.cell?_of_block (a := ⟨blk, off + i * 2, none⟩) hb).trans (h.rd.2 i hi).1, (World.cell?_of_block (a := ⟨blk, off + i * 2 + 1, none⟩) hb).trans (h.rd.2 i hi).2⟩⟩,
    fun j hj => (World.frozen?_of_block (a := ⟨blk, off + j, none⟩) hb).trans (h.fr j hj)⟩
theorem WrAt.below {w w' : World} {blk off B : Nat} {d : Array (Int × Int)} (h : WrAt w blk off d) (hb : Below B w w') (hB : blk < B) : WrAt w' blk off d := h.block hb.size (hb.block blk hB)
theorem WrAt.kept {w w' : World} {blk off : Nat} {row : Option Nat} {d : Array (Int × Int)} (h : WrAt w blk off d) (hg : w.grownBy w' row) (hne : some blk ≠ row) : WrAt w' blk off d := h.block hg.size (hg.block blk h.lt hne)
theorem WrAt.alloc {w : World} {blk off : Nat} {d : Array (Int × Int)} (h : WrAt w blk off d) (o : Obj) : WrAt (w.alloc o) blk off d := h.kept (World.grownBy_alloc w o none) (by simp)
theorem WrAt.drewN {w : World} {blk off : Nat} {d : Array (Int × Int)} (h : WrAt w blk off d) (n : Nat) : WrAt (w.drewN n) blk off d := h.block (Nat.le_refl _) rfl
theorem WrAt.drew {w : World} {blk off : Nat} {d : Array (Int × Int)} (h : WrAt w blk off d) : WrAt w.drew blk off d := h.block (Nat.le_refl _) rfl
theorem size_setCell (w : World) (p : Addr) (v : Value) : (w.setCell p v).heap.size = w.heap.size := by
  simp [World.setCell]
theorem WrAt.set {w : World} {blk off : Nat} {d : Array (Int × Int)} (h : WrAt w blk off d) {i : Nat} (hi : i < d.size) (y : Int × Int) :
    WrAt ((w.setCell ⟨blk, off + i * 2, none⟩ (.int .i64 y.1)).setCell ⟨blk, off + i * 2 + 1, none⟩ (.int .i64 y.2)) blk off (d.setIfInBounds i y) := by
  obtain ⟨c0, c1⟩ := h.rd.2 i hi
  refine ⟨⟨by rw [size_setCell, size_setCell]; exact h.lt, fun t ht => ?_⟩, fun j hj => ?_⟩
  · have ht' : t < d.size := by simpa using ht
    have e : (d.setIfInBounds i y)[t]! = if t = i then y else d[t]! := by
      rw [getElem!_pos _ t ht, getElem!_pos d t ht', Array.getElem_setIfInBounds]
      by_cases c : i = t
      · subst c; simp
      · rw [if_neg c, if_neg (by omega)]
    rw [e]
    obtain ⟨t0, t1⟩ := h.rd.2 t ht'
    by_cases c : t = i
    · subst c
      rw [if_pos rfl]
      refine ⟨?_, ?_⟩
      · rw [World.cell?_setCell_other _ _ _ _ (by simp), World.cell?_setCell_same _ _ _ c0]
      · exact World.cell?_setCell_same _ _ _ ((World.cell?_setCell_other _ _ _ _ (by simp)).trans c1)
    · rw [if_neg c]
      refine ⟨?_, ?_⟩
      · rw [World.cell?_setCell_other _ _ _ _ (by simp <;> omega), World.cell?_setCell_other _ _ _ _ (by simp <;> omega)]; exact t0
      · rw [World.cell?_setCell_other _ _ _ _ (by simp <;> omega), World.cell?_setCell_other _ _ _ _ (by simp <;> omega)]; exact t1
  · rw [World.frozen?_setCell, World.frozen?_setCell]
    exact h.fr j (by simpa using hj)
theorem WrAt.cell {w : World} {blk off : Nat} {d : Array (Int × Int)} (h : WrAt w blk off d) {i : Nat} (hi : i < d.size) {x : Int × Int} (hx : d[i]! = x) :
    w.cell? ⟨blk, off + i * 2, none⟩ = some (.int .i64 x.1) ∧ w.cell? ⟨blk, off + i * 2 + 1, none⟩ = some (.int .i64 x.2) ∧ w.frozen? ⟨blk, off + i * 2, none⟩ = false ∧ w.frozen? ⟨blk, off + i * 2 + 1, none⟩ = false := by
  rw [← hx]
  exact ⟨(h.rd.2 i hi).1, (h.rd.2 i hi).2, h.fr _ (by omega), by have := h.fr (i * 2 + 1) (by omega); rw [← Nat.add_assoc] at this; exact this⟩

theorem gb_trans {w w1 w2 : World} {row : Option Nat} (h1 : w.grownBy w1 row) (h2 : w1.grownBy w2 row) : w.grownBy w2 row :=
  ⟨h2.os.trans h1.os, h2.tape.trans h1.tape, h2.output.trans h1.output, Nat.le_trans h1.size h2.size, fun k hk hr => (h2.block k (Nat.lt_of_lt_of_le hk h1.size) hr).trans (h1.block k hk hr)⟩
theorem gb_setCell (w : World) (p : Addr) (v : Value) : w.grownBy (w.setCell p v) (some p.block) :=
  ⟨rfl, rfl, rfl, by rw [size_setCell]; exact Nat.le_refl _, fun k _ hr => heap_setCell_other w p k v (fun e => hr (by rw [e]))⟩
theorem gb_drewN {w w' : World} {row : Option Nat} (h : w.grownBy w' row) (n : Nat) : w.grownBy (w'.drewN n) row := ⟨h.os, h.tape, h.output, h.size, h.block⟩
theorem gb_set {w w' : World} {blk : Nat} (h : w.grownBy w' (some blk)) (o1 o2 : Nat) (u v : Value) : w.grownBy ((w'.setCell ⟨blk, o1, none⟩ u).setCell ⟨blk, o2, none⟩ v) (some blk) :=
  gb_trans (gb_trans h (gb_setCell w' ⟨blk, o1, none⟩ u)) (gb_setCell _ ⟨blk, o2, none⟩ v)
theorem gb_alloc {w w' : World} {row : Option Nat} (h : w.grownBy w' row) (o : Obj) : w.grownBy (w'.alloc o) row := gb_trans h (World.grownBy_alloc w' o row)
theorem gb_below {w w' : World} (h : Below w.heap.size w w') (row : Option Nat) : w.grownBy w' row := ⟨h.os, h.tape, h.output, h.size, fun k hk _ => h.block k hk⟩
theorem below_gb {a w w' : World} {B blk : Nat} (h : Below B a w) (hg : w.grownBy w' (some blk)) (hB : B ≤ blk) (hw : B ≤ w.heap.size) : Below B a w' :=
  h.grown hg hw fun k e => by cases e; exact hB

/-- A list of one's own that holds something may be written. -/
theorem OwnI.wr {w : World} {base n : Nat} {v : Value} {l : List (Int × Int)} (hl : l.length = n) (hn : 0 < n) (h : OwnI w base v l) :
    ∃ g cp, v = .slice (some ⟨g, 0, none⟩) n cp ∧ base ≤ g ∧ n ≤ cp ∧ WrAt w g 0 l.toArray := by
  have hs := h.sl
  obtain ⟨_, ⟨_, h0⟩ | ⟨g, cp, cur, rfl, hb, hg, hc, _, hcs, _⟩⟩ := id h
  · omega
  · obtain ⟨p, c, e, _, h0 | ⟨blk, off, rfl, hr⟩⟩ := hs
    · rw [List.size_toArray] at h0; omega
    · simp only [Value.slice.injEq, Option.some.injEq, Addr.mk.injEq] at e
      obtain ⟨⟨rfl, rfl, _⟩, _, rfl⟩ := e
      exact ⟨g, cp, by rw [hl], hb, by omega, hr, fun j _ => by simp [World.frozen?, hg]⟩
end Go.Proofs.YtmkjalpgeljnkaaDoor

/-
  The document's heaps of trees: what melding leans on: rows of lists, lists that lie apart from a growing one.
-/
namespace Go.Proofs.YtmkjalpgeljnkaaDoor
open Go.RowKit Go.Sort Go.Proofs

/-- A heap as it is written: ranks as whole numbers. -/
def zH (h : List TrL) : List (Int × List (Int × Int)) := h.map fun t => ((t.1 : Int), t.2)
theorem zH_len (h : List TrL) : (zH h).length = h.length := by simp [zH]
theorem zH_get {h : List TrL} {i r : Nat} {l : List (Int × Int)} (e : h[i]? = some (r, l)) : (zH h)[i]? = some ((r : Int), l) := by simp [zH, e]
/-- make([][]api.Item, n): empty lists. -/
theorem made_rows {w : World} {base n g : Nat} (h : w.ownsRow base 35 1 (.slice (some ⟨g, 0, none⟩) n n) n (madeCells (Value.slice none 0 0).cells (n * 1)).toList) (hn : 0 < n) : base ≤ g ∧ WrE ES w g 0 (List.replicate n (none, 0, 0)) := by
  have e : (madeCells (Value.slice none 0 0).cells (n * 1)).toList = ES.flat (List.replicate n (none, 0, 0)) := by
    have h1 : (Value.slice none 0 0).cells = #[.slice none 0 0] := rfl
    rw [h1, toList_madeCells_one, Nat.mul_one]
    have : ∀ m, ES.flat (List.replicate m (none, 0, 0)) = List.replicate m (.slice none 0 0) := fun m => by
      induction m with
      | zero => rfl
      | succ m ih => rw [List.replicate_succ, El.flat_cons, ih, List.replicate_succ]; rfl
    rw [this]
  rw [e] at h
  have ho : OwnE ES w base (.slice (some ⟨g, 0, none⟩) n n) (List.replicate n (none, 0, 0)) := by unfold OwnE; rw [List.length_replicate]; exact h
  obtain ⟨g', cp, e1, hb, _, hr, hf⟩ := ho.some List.length_replicate hn
  simp only [Value.slice.injEq, Option.some.injEq, Addr.mk.injEq] at e1
  obtain ⟨⟨rfl, _⟩, _⟩ := e1
  exact ⟨hb, hr, fun j _ => by rw [Nat.zero_add]; exact hf j⟩
theorem WrE.row {w : World} {blk i : Nat} {d : List SlV} (h : WrE ES w blk 0 d) {s : SlV} (hx : d[i]? = some s) : w.cell? ⟨blk, i, none⟩ = some (.slice s.1 s.2.1 s.2.2) ∧ w.frozen? ⟨blk, i, none⟩ = false := by
  have h1 := h.rd.row hx
  have hi := (List.getElem?_eq_some_iff.1 hx).1
  have h2 := h.fr i (by simpa [ES] using hi)
  rw [Nat.zero_add] at h1 h2
  exact ⟨h1, h2⟩
theorem WrE.setRow {w : World} {blk i : Nat} {d : List SlV} (h : WrE ES w blk 0 d) (hi : i < d.length) (y : SlV) : WrE ES (w.setCell ⟨blk, i, none⟩ (.slice y.1 y.2.1 y.2.2)) blk 0 (d.set i y) := by
  have := h.set hi y
  have e : w.setCells blk (0 + i * ES.K) (ES.enc y) = w.setCell ⟨blk, i, none⟩ (.slice y.1 y.2.1 y.2.2) := by
    show w.setCells blk (0 + i * 1) [.slice y.1 y.2.1 y.2.2] = _
    rw [Nat.zero_add, Nat.mul_one]; rfl
  rw [e] at this
  exact this
/-- Eight rows that hold the trees of a heap, by rank; what lies there is w's. -/
def RowsAt (w : World) (d : List SlV) (f : Nat → List (Int × Int)) : Prop := d.length = 8 ∧ ∀ j, j < 8 → ∃ s, d[j]? = some s ∧ Sl w (.slice s.1 s.2.1 s.2.2) (f j).toArray
theorem RowsAt.start (w : World) : RowsAt w (List.replicate 8 (none, 0, 0)) (digitH []) :=
  ⟨by simp, fun j hj => ⟨(none, 0, 0), by rw [List.getElem?_replicate, if_pos hj], by rw [digitH_nil]; exact Sl.nil w⟩⟩
theorem digitH_snoc {h : List TrL} {r : Nat} {l : List (Int × Int)} (hr : ∀ t ∈ h, t.1 < r) (j : Nat) : digitH (h ++ [(r, l)]) j = if j = r then l else digitH h j := by
  by_cases e : j = r
  · subst e
    rw [if_pos rfl]
    have : ∀ (g : List TrL), (∀ t ∈ g, t.1 < j) → digitH (g ++ [(j, l)]) j = l := by
      intro g
      induction g with
      | nil => intro _; exact digitH_eq l [] j
      | cons t g ih =>
        intro hg
        obtain ⟨q, m⟩ := t
        have := hg (q, m) List.mem_cons_self
        simp only at this
        rw [List.cons_append, digitH_ne m _ (by omega)]
        exact ih fun u hu => hg u (List.mem_cons_of_mem _ hu)
    exact this h hr
  · rw [if_neg e]
    induction h with
    | nil => rw [List.nil_append, digitH_ne l [] (fun q => e q.symm)]
    | cons t g ih =>
      obtain ⟨q, m⟩ := t
      by_cases k : q = j
      · subst k; rw [List.cons_append, digitH_eq, digitH_eq]
      · rw [List.cons_append, digitH_ne m _ k, digitH_ne m _ k]
        exact ih fun u hu => hr u (List.mem_cons_of_mem _ hu)
theorem RowsAt.set {w : World} {d : List SlV} {h : List TrL} {i r : Nat} {l : List (Int × Int)} {s : SlV} (H : RowsAt w d (digitH (h.take i))) (hp : h.Pairwise (fun a b => a.1 < b.1)) (hi : h[i]? = some (r, l)) (hs : Sl w (.slice s.1 s.2.1 s.2.2) l.toArray) : RowsAt w (d.set r s) (digitH (h.take (i + 1))) := by
  obtain ⟨hlt, e⟩ := List.getElem?_eq_some_iff.1 hi
  have et : h.take (i + 1) = h.take i ++ [(r, l)] := by rw [List.take_succ_eq_append_getElem hlt, e]
  have hlow : ∀ t ∈ h.take i, t.1 < r := fun t ht => by
    obtain ⟨j, hj, rfl⟩ := List.getElem_of_mem ht
    rw [List.length_take] at hj
    rw [List.getElem_take]
    have := List.pairwise_iff_getElem.1 hp j i (by omega) hlt (by omega)
    rw [e] at this
    exact this
  refine ⟨by rw [List.length_set]; exact H.1, fun j hj => ?_⟩
  rw [et, digitH_snoc hlow]
  by_cases q : j = r
  · subst q
    rw [if_pos rfl]
    exact ⟨s, by rw [List.getElem?_set_self (by rw [H.1]; exact hj)], hs⟩
  · rw [if_neg q]
    obtain ⟨s', e', hs'⟩ := H.2 j hj
    exact ⟨s', by rw [List.getElem?_set_ne (fun c => q c.symm)]; exact e', hs'⟩

/-- A list that lies neither in the block B nor in the block F. -/
def SlB (F : Option Nat) (w : World) (B : Option Nat) (v : Value) (l : List (Int × Int)) : Prop :=
  ∃ p c, v = .slice p l.length c ∧ l.length ≤ c ∧ (l = [] ∨ ∃ blk off, p = some ⟨blk, off, none⟩ ∧ some blk ≠ B ∧ some blk ≠ F ∧ RdAt w blk off l.toArray)
theorem SlB.sl {F : Option Nat} {w : World} {B : Option Nat} {v : Value} {l : List (Int × Int)} (h : SlB F w B v l) : Sl w v l.toArray := by
  obtain ⟨p, c, rfl, hc, h | ⟨blk, off, rfl, _, _, hr⟩⟩ := h
  · exact ⟨p, c, by simp, by simpa using hc, Or.inl (by simp [h])⟩
  · exact ⟨_, c, by simp, by simpa using hc, Or.inr ⟨blk, off, rfl, hr⟩⟩
theorem SlB.below {F : Option Nat} {w w' : World} {B : Option Nat} {v : Value} {l : List (Int × Int)} (h : SlB F w B v l) (hb : Below w.heap.size w w') : SlB F w' B v l := by
  obtain ⟨p, c, rfl, hc, h | ⟨blk, off, rfl, hn, hf, hr⟩⟩ := h
  · exact ⟨p, c, rfl, hc, Or.inl h⟩
  · exact ⟨_, c, rfl, hc, Or.inr ⟨blk, off, rfl, hn, hf, hr.below hb hr.1⟩⟩
theorem RdAt.keptB {w w' : World} {blk off : Nat} {row : Option Nat} {d : Array (Int × Int)} (h : RdAt w blk off d) (hg : w.grownBy w' row) (hne : some blk ≠ row) : RdAt w' blk off d :=
  have hb := hg.block blk h.1 hne
  ⟨Nat.lt_of_lt_of_le h.1 hg.size, fun i hi => ⟨(World.cell?_of_block (a := ⟨blk, off + i * 2, none⟩) hb).trans (h.2 i hi).1, (World.cell?_of_block (a := ⟨blk, off + i * 2 + 1, none⟩) hb).trans (h.2 i hi).2⟩⟩
/-- .. where a list grows in B. -/
theorem SlB.kept {F : Option Nat} {w w' : World} {B B' : Option Nat} {v : Value} {l : List (Int × Int)} (h : SlB F w B v l) (hg : w.grownBy w' B) (hB : B' = B ∨ B' = some w.heap.size) : SlB F w' B' v l := by
  obtain ⟨p, c, rfl, hc, h | ⟨blk, off, rfl, hn, hf, hr⟩⟩ := h
  · exact ⟨p, c, rfl, hc, Or.inl h⟩
  · refine ⟨_, c, rfl, hc, Or.inr ⟨blk, off, rfl, ?_, hf, hr.keptB hg hn⟩⟩
    rcases hB with e | e
    · rw [e]; exact hn
    · rw [e]; intro q; have := Option.some.inj q; have := hr.1; omega
/-- What lay there before, apart from what is one's own since. -/
theorem SlB.old {F : Option Nat} {w w' : World} {B : Option Nat} {v : Value} {l : List (Int × Int)} (h : Sl w v l.toArray) (hb : Below w.heap.size w w') (hB : ∀ g, B = some g → w.heap.size ≤ g) (hF : ∀ g, F = some g → w.heap.size ≤ g) : SlB F w' B v l := by
  obtain ⟨p, c, rfl, hc, h | ⟨blk, off, rfl, hr⟩⟩ := h
  · exact ⟨p, c, by simp, by simpa using hc, Or.inl (by simpa using h)⟩
  · refine ⟨_, c, by simp, by simpa using hc, Or.inr ⟨blk, off, rfl, fun e => ?_, fun e => ?_, hr.below hb hr.1⟩⟩
    · have := hB blk e.symm
      have := hr.1
      omega
    · have := hF blk e.symm
      have := hr.1
      omega
/-- What is new, apart from what is elder. -/
theorem SlB.fresh {F : Option Nat} {w : World} {base : Nat} {B : Option Nat} {v : Value} {l : List (Int × Int)} (h : OwnI w base v l) (hB : ∀ g, B = some g → g < base) (hF : ∀ g, F = some g → g < base) : SlB F w B v l := by
  rcases Nat.eq_zero_or_pos l.length with h0 | h0
  · have e := List.eq_nil_of_length_eq_zero h0
    subst e
    obtain ⟨p, c, e, hc, _⟩ := h.sl
    exact ⟨p, c, by simpa using e, Nat.zero_le _, Or.inl rfl⟩
  · obtain ⟨g, cp, rfl, hg, hc, hw⟩ := OwnI.wr rfl h0 h
    exact ⟨_, cp, rfl, hc, Or.inr ⟨g, 0, rfl, fun e => (by have := hB g e.symm; omega), fun e => (by have := hF g e.symm; omega), hw.rd⟩⟩

/-- Trees that were put out: ranks, and the items of each, apart from B and from F. -/
def OutAt (F : Option Nat) (w : World) (B : Option Nat) (os : List (Int × SlV)) (h : List TrL) : Prop :=
  os.length = h.length ∧ ∀ (i r : Nat) (l : List (Int × Int)), h[i]? = some (r, l) → ∃ s : SlV, os[i]? = some ((r : Int), s) ∧ SlB F w B (.slice s.1 s.2.1 s.2.2) l
theorem OutAt.nil (F : Option Nat) (w : World) (B : Option Nat) : OutAt F w B [] [] := ⟨rfl, fun i r l h => by simp at h⟩
theorem OutAt.below {F : Option Nat} {w w' : World} {B : Option Nat} {os : List (Int × SlV)} {h : List TrL} (H : OutAt F w B os h) (hb : Below w.heap.size w w') : OutAt F w' B os h :=
  ⟨H.1, fun i r l e => by obtain ⟨s, a, b⟩ := H.2 i r l e; exact ⟨s, a, b.below hb⟩⟩
theorem OutAt.kept {F : Option Nat} {w w' : World} {B B' : Option Nat} {os : List (Int × SlV)} {h : List TrL} (H : OutAt F w B os h) (hg : w.grownBy w' B) (hB : B' = B ∨ B' = some w.heap.size) : OutAt F w' B' os h :=
  ⟨H.1, fun i r l e => by obtain ⟨s, a, b⟩ := H.2 i r l e; exact ⟨s, a, b.kept hg hB⟩⟩
theorem OutAt.snoc {F : Option Nat} {w : World} {B : Option Nat} {os : List (Int × SlV)} {h : List TrL} {r : Nat} {l : List (Int × Int)} {s : SlV} (H : OutAt F w B os h) (hs : SlB F w B (.slice s.1 s.2.1 s.2.2) l) : OutAt F w B (os ++ [((r : Int), s)]) (h ++ [(r, l)]) := by
  refine ⟨by simp [H.1], fun i q m e => ?_⟩
  rcases Nat.lt_or_ge i h.length with k | k
  · rw [List.getElem?_append_left k] at e
    obtain ⟨s', a, b⟩ := H.2 i q m e
    exact ⟨s', by rw [List.getElem?_append_left (by rw [H.1]; exact k)]; exact a, b⟩
  · rw [List.getElem?_append_right k] at e
    have hi : i = h.length := by
      rcases Nat.eq_or_lt_of_le k with q | q
      · exact q.symm
      · rw [List.getElem?_eq_none (by simp; omega)] at e; cases e
    subst hi
    simp only [Nat.sub_self, List.getElem?_cons_zero, Option.some.injEq, Prod.mk.injEq] at e
    obtain ⟨rfl, rfl⟩ := e
    exact ⟨s, by rw [List.getElem?_append_right (by rw [H.1]; exact Nat.le_refl _), H.1]; simp, hs⟩
theorem zH_some {h : List TrL} {i : Nat} {r : Int} {l : List (Int × Int)} (e : (zH h)[i]? = some (r, l)) : ∃ q : Nat, h[i]? = some (q, l) ∧ (q : Int) = r := by
  simp only [zH, List.getElem?_map, Option.map_eq_some_iff] at e
  obtain ⟨⟨q, m⟩, e1, e2⟩ := e
  simp only [Prod.mk.injEq] at e2
  obtain ⟨rfl, rfl⟩ := e2
  exact ⟨q, e1, rfl⟩
theorem OutAt.heap {F : Option Nat} {w : World} {B : Option Nat} {base : Nat} {v : Value} {os : List (Int × SlV)} {h : List TrL} (H : OutAt F w B os h) (ho : OwnE ET w base v os) : HpAt w v (zH h) := by
  refine ⟨os, ho.sl, by rw [zH_len, H.1], fun i r l e => ?_⟩
  obtain ⟨q, e1, rfl⟩ := zH_some e
  obtain ⟨s, a, b⟩ := H.2 i q l e1
  exact ⟨s, a, b.sl⟩
/-- A heap that lies apart from a block stays where that block is written. -/
theorem OutAt.apart {f : Nat} {w w' : World} {B : Option Nat} {base : Nat} {v : Value} {os : List (Int × SlV)} {h : List TrL} (H : OutAt (some f) w B os h) (ho : OwnE ET w base v os) (hf : f < base) (hg : w.grownBy w' (some f)) : HpAt w' v (zH h) := by
  have ho' : OwnE ET w' base v os := by
    refine World.ownsRow.kept ho hg ?_
    cases hv : v.ownBlock with
    | none => exact Or.inl rfl
    | some g => exact Or.inr fun e => by have h1 := (World.ownsRow.lt ho g hv).1; have h2 := Option.some.inj e; omega
  refine ⟨os, ho'.sl, by rw [zH_len, H.1], fun i r l e => ?_⟩
  obtain ⟨q, e1, rfl⟩ := zH_some e
  obtain ⟨s, a, p, c, e2, hc, e3 | ⟨blk, off, e3, hn, hf2, hr⟩⟩ := H.2 i q l e1
  · exact ⟨s, a, by rw [e2]; exact ⟨p, c, by simp, by simpa using hc, Or.inl (by simp [e3])⟩⟩
  · refine ⟨s, a, ?_⟩
    rw [e2, e3]
    exact ⟨_, c, by simp, by simpa using hc, Or.inr ⟨blk, off, rfl, hr.keptB hg hf2⟩⟩

/-- The heap h in the world w: its row lies there, its items did so in w0 already. -/
def HpF (w0 w : World) (v : Value) (h : List TrL) : Prop :=
  ∃ ts : List (Int × SlV), SlE ET w v ts ∧ ts.length = h.length ∧ ∀ (i r : Nat) (l : List (Int × Int)), h[i]? = some (r, l) → ∃ s : SlV, ts[i]? = some ((r : Int), s) ∧ Sl w0 (.slice s.1 s.2.1 s.2.2) l.toArray
theorem HpAt.toF {w0 w : World} {v : Value} {h : List TrL} (H : HpAt w0 v (zH h)) (hb : Below w0.heap.size w0 w) : HpF w0 w v h := by
  obtain ⟨ts, h1, h2, h3⟩ := H
  exact ⟨ts, h1.below hb, by rw [h2, zH_len], fun i r l e => h3 i (r : Int) l (zH_get e)⟩
theorem HpF.tree {w0 w : World} {p : Option Addr} {n cap : Nat} {h : List TrL} (H : HpF w0 w (.slice p n cap) h) {i r : Nat} {l : List (Int × Int)} (hi : h[i]? = some (r, l)) :
    ∃ blk off q c, p = some ⟨blk, off, none⟩ ∧ blk < w.heap.size ∧ w.cell? ⟨blk, off + i * 2, none⟩ = some (.int .i64 (r : Int)) ∧ w.cell? ⟨blk, off + i * 2 + 1, none⟩ = some (.slice q l.length c) ∧ Sl w0 (.slice q l.length c) l.toArray := by
  obtain ⟨ts, h1, h2, h3⟩ := H
  obtain ⟨s, e, hs⟩ := h3 i r l hi
  obtain ⟨p', cap', e', hc, h0 | ⟨blk, off, rfl, hr⟩⟩ := h1
  · rw [h0] at e; simp at e
  · simp only [Value.slice.injEq] at e'
    obtain ⟨rfl, _, _⟩ := e'
    obtain ⟨c0, c1⟩ := hr.tree e
    obtain ⟨q, c, es, _⟩ := id hs
    rw [List.size_toArray] at es
    rw [es] at c1 hs
    exact ⟨blk, off, q, c, rfl, hr.1, c0, c1, hs⟩
end Go.Proofs.YtmkjalpgeljnkaaDoor

/-
  bino.checkRanks: what is wrong with the ranks of a heap, and with how many items there are.
-/
namespace Go.Proofs.YtmkjalpgeljnkaaDoor
open Go.RowKit Go.Sort Go.Proofs

theorem Ranks.says1 {h : List (Int × List (Int × Int))} {i all : Nat} {last r : Int} {l : List (Int × Int)} (H : Ranks h i last all) (hx : h[i]? = some (r, l)) (h1 : r < 0 ∨ 5 < r) : errV (rankE (-1) h) = .iface 56 (.int .i64 1) := by
  rw [H.eq, drop_get hx]; simp only [rankE]; rw [if_pos h1]; rfl
theorem Ranks.says3 {h : List (Int × List (Int × Int))} {i all : Nat} {last r : Int} {l : List (Int × Int)} (H : Ranks h i last all) (hx : h[i]? = some (r, l)) (h1 : ¬ (r < 0 ∨ 5 < r)) (h2 : r ≤ last ∨ l.length ≠ 2 ^ r.toNat) : errV (rankE (-1) h) = .iface 56 (.int .i64 3) := by
  rw [H.eq, drop_get hx]; simp only [rankE]; rw [if_neg h1, if_pos h2]; rfl
set_option maxHeartbeats 16000000 in
set_option maxRecDepth 4000 in
theorem ranks_some (p : Option Addr) (n cap : Nat) (h : List (Int × List (Int × Int))) (w : World) (hn : n ≤ 9223372036854775807) (HN : Hid (h.length = n)) (HA : Hid (HpAt w (.slice p n cap) h)) (HL : Hid (∀ t ∈ h, t.2.length ≤ 9223372036854775807)) :
    Calls Tryd.prog 30 #[.slice p n cap] w fun e w' => e = .returned (errV (rankE (-1) h)) ∧ Below w.heap.size w w' := by
  go_enter Tryd.func30, Tryd.ntmps30
  go_wp2
  go_loopg [3, 8] n (fun gg v3 v8 wr => ∃ (i all : Nat) (last : Int), v3 = .int .i64 last ∧ v8 = .int .i64 i ∧ i ≤ n ∧ n - i ≤ gg ∧ Hid (Ranks h i last all) ∧ Hid (Below w.heap.size w wr))
  case atStart => exact ⟨0, 0, -1, rfl, rfl, Nat.zero_le _, by omega, Ranks.start h, Below.refl _ _⟩
  case round =>
    obtain ⟨i, all, last, rfl, rfl, hin, hg, HR, HB⟩ := hrel
    have hlo := HR.out.low
    have hhi := HR.out.high
    have hB : w.heap.size ≤ wr.heap.size := HB.out.size
    by_cases hlt : i < n
    · have hlz : (i : Int) < (n : Int) := by omega
      obtain ⟨⟨r, l⟩, hx⟩ : ∃ x, h[i]? = some x := ⟨h[i]'(by rw [HN.out]; omega), by simp⟩
      obtain ⟨blk, off, q, c, rfl, hblk, c0, c1, hsl⟩ := HA.out.tree hx
      have hlen : l.length ≤ 9223372036854775807 := HL.out _ (List.mem_of_getElem? hx)
      have t0 := (HB.out.cell (p := ⟨blk, off + i * 2, none⟩) hblk).trans c0
      have t1 := (HB.out.cell (p := ⟨blk, off + i * 2 + 1, none⟩) hblk).trans c1
      have hbw : blk < wr.heap.size := by omega
      obtain ⟨ln, hln⟩ : ∃ m, l.length = m := ⟨_, rfl⟩
      rw [hln] at t1 hlen
      have HX : Hid (h[i]? = some (r, l)) := hx
      have HLN : Hid (l.length = ln) := hln
      have HB' : Hid (∀ o, Below w.heap.size w (wr.alloc o)) := fun o => HB.out.alloc hB o
      clear hx hln c0 c1 hsl
      by_cases h1 : r < 0
      · go_wp2
        go_ret
        exact ⟨congrArg Ending.returned (HR.out.says1 HX.out (Or.inl h1)).symm, HB'.out _⟩
      · by_cases h2 : 5 < r
        · have h3 : (6 : Int) ≤ r := by omega
          go_wp2
          go_ret
          exact ⟨congrArg Ending.returned (HR.out.says1 HX.out (Or.inr h2)).symm, HB'.out _⟩
        · have hr6 : r = 0 ∨ r = 1 ∨ r = 2 ∨ r = 3 ∨ r = 4 ∨ r = 5 := by omega
          rcases hr6 with rfl | rfl | rfl | rfl | rfl | rfl
          · by_cases h3 : (0 : Int) ≤ last
            · have hd : decide ((0 : Int) ≤ last) = true := decide_eq_true h3
              have HE : Hid (errV (rankE (-1) h) = .iface 56 (.int .i64 3)) := HR.out.says3 HX.out (by omega) (Or.inl h3)
              go_wp2_with fail
              go_quiet (fail)
              go_wp2
              go_ret
              exact ⟨congrArg Ending.returned HE.out.symm, below_drewN (HB'.out _) nq⟩
            · have hd : decide ((0 : Int) ≤ last) = false := decide_eq_false h3
              by_cases h4 : ln = 1
              · subst h4
                have HR' : Hid (Ranks h (i + 1) 0 (all + l.length)) := HR.out.step HX.out (by omega) (fun e => e.elim (fun a => h3 a) (fun a => a HLN.out))
                go_wp2_with fail
                go_quiet (fail)
                go_wp2
                go_roundg (n - (i + 1))
                case measure => omega
                case rel => exact ⟨i + 1, _, 0, rfl, by go_num, by omega, Nat.le_refl _, HR', below_drewN (HB'.out _) nq⟩
              · have hne : ((ln : Int) != 1) = true := by rw [bne_iff_ne]; omega
                have HE : Hid (errV (rankE (-1) h) = .iface 56 (.int .i64 3)) := HR.out.says3 HX.out (by omega) (Or.inr (fun e => h4 (by rw [← HLN.out]; exact e)))
                go_wp2_with fail
                go_quiet (fail)
                go_wp2
                go_ret
                exact ⟨congrArg Ending.returned HE.out.symm, below_drewN (HB'.out _) nq⟩
          · by_cases h3 : (1 : Int) ≤ last
            · have hd : decide ((1 : Int) ≤ last) = true := decide_eq_true h3
              have HE : Hid (errV (rankE (-1) h) = .iface 56 (.int .i64 3)) := HR.out.says3 HX.out (by omega) (Or.inl h3)
              go_wp2_with fail
              go_quiet (fail)
              go_wp2
              go_ret
              exact ⟨congrArg Ending.returned HE.out.symm, below_drewN (HB'.out _) nq⟩
            · have hd : decide ((1 : Int) ≤ last) = false := decide_eq_false h3
              by_cases h4 : ln = 2
              · subst h4
                have HR' : Hid (Ranks h (i + 1) 1 (all + l.length)) := HR.out.step HX.out (by omega) (fun e => e.elim (fun a => h3 a) (fun a => a HLN.out))
                go_wp2_with fail
                go_quiet (fail)
                go_wp2
                go_roundg (n - (i + 1))
                case measure => omega
                case rel => exact ⟨i + 1, _, 1, rfl, by go_num, by omega, Nat.le_refl _, HR', below_drewN (HB'.out _) nq⟩
              · have hne : ((ln : Int) != 2) = true := by rw [bne_iff_ne]; omega
                have HE : Hid (errV (rankE (-1) h) = .iface 56 (.int .i64 3)) := HR.out.says3 HX.out (by omega) (Or.inr (fun e => h4 (by rw [← HLN.out]; exact e)))
                go_wp2_with fail
                go_quiet (fail)
                go_wp2
                go_ret
                exact ⟨congrArg Ending.returned HE.out.symm, below_drewN (HB'.out _) nq⟩
          · by_cases h3 : (2 : Int) ≤ last
            · have hd : decide ((2 : Int) ≤ last) = true := decide_eq_true h3
              have HE : Hid (errV (rankE (-1) h) = .iface 56 (.int .i64 3)) := HR.out.says3 HX.out (by omega) (Or.inl h3)
              go_wp2_with fail
              go_quiet (fail)
              go_wp2
              go_ret
              exact ⟨congrArg Ending.returned HE.out.symm, below_drewN (HB'.out _) nq⟩
            · have hd : decide ((2 : Int) ≤ last) = false := decide_eq_false h3
              by_cases h4 : ln = 4
              · subst h4
                have HR' : Hid (Ranks h (i + 1) 2 (all + l.length)) := HR.out.step HX.out (by omega) (fun e => e.elim (fun a => h3 a) (fun a => a HLN.out))
                go_wp2_with fail
                go_quiet (fail)
                go_wp2
                go_roundg (n - (i + 1))
                case measure => omega
                case rel => exact ⟨i + 1, _, 2, rfl, by go_num, by omega, Nat.le_refl _, HR', below_drewN (HB'.out _) nq⟩
              · have hne : ((ln : Int) != 4) = true := by rw [bne_iff_ne]; omega
                have HE : Hid (errV (rankE (-1) h) = .iface 56 (.int .i64 3)) := HR.out.says3 HX.out (by omega) (Or.inr (fun e => h4 (by rw [← HLN.out]; exact e)))
                go_wp2_with fail
                go_quiet (fail)
                go_wp2
                go_ret
                exact ⟨congrArg Ending.returned HE.out.symm, below_drewN (HB'.out _) nq⟩
          · by_cases h3 : (3 : Int) ≤ last
            · have hd : decide ((3 : Int) ≤ last) = true := decide_eq_true h3
              have HE : Hid (errV (rankE (-1) h) = .iface 56 (.int .i64 3)) := HR.out.says3 HX.out (by omega) (Or.inl h3)
              go_wp2_with fail
              go_quiet (fail)
              go_wp2
              go_ret
              exact ⟨congrArg Ending.returned HE.out.symm, below_drewN (HB'.out _) nq⟩
            · have hd : decide ((3 : Int) ≤ last) = false := decide_eq_false h3
              by_cases h4 : ln = 8
              · subst h4
                have HR' : Hid (Ranks h (i + 1) 3 (all + l.length)) := HR.out.step HX.out (by omega) (fun e => e.elim (fun a => h3 a) (fun a => a HLN.out))
                go_wp2_with fail
                go_quiet (fail)
                go_wp2
                go_roundg (n - (i + 1))
                case measure => omega
                case rel => exact ⟨i + 1, _, 3, rfl, by go_num, by omega, Nat.le_refl _, HR', below_drewN (HB'.out _) nq⟩
              · have hne : ((ln : Int) != 8) = true := by rw [bne_iff_ne]; omega
                have HE : Hid (errV (rankE (-1) h) = .iface 56 (.int .i64 3)) := HR.out.says3 HX.out (by omega) (Or.inr (fun e => h4 (by rw [← HLN.out]; exact e)))
                go_wp2_with fail
                go_quiet (fail)
                go_wp2
                go_ret
                exact ⟨congrArg Ending.returned HE.out.symm, below_drewN (HB'.out _) nq⟩
          · by_cases h3 : (4 : Int) ≤ last
            · have hd : decide ((4 : Int) ≤ last) = true := decide_eq_true h3
              have HE : Hid (errV (rankE (-1) h) = .iface 56 (.int .i64 3)) := HR.out.says3 HX.out (by omega) (Or.inl h3)
              go_wp2_with fail
              go_quiet (fail)
              go_wp2
              go_ret
              exact ⟨congrArg Ending.returned HE.out.symm, below_drewN (HB'.out _) nq⟩
            · have hd : decide ((4 : Int) ≤ last) = false := decide_eq_false h3
              by_cases h4 : ln = 16
              · subst h4
                have HR' : Hid (Ranks h (i + 1) 4 (all + l.length)) := HR.out.step HX.out (by omega) (fun e => e.elim (fun a => h3 a) (fun a => a HLN.out))
                go_wp2_with fail
                go_quiet (fail)
                go_wp2
                go_roundg (n - (i + 1))
                case measure => omega
                case rel => exact ⟨i + 1, _, 4, rfl, by go_num, by omega, Nat.le_refl _, HR', below_drewN (HB'.out _) nq⟩
              · have hne : ((ln : Int) != 16) = true := by rw [bne_iff_ne]; omega
                have HE : Hid (errV (rankE (-1) h) = .iface 56 (.int .i64 3)) := HR.out.says3 HX.out (by omega) (Or.inr (fun e => h4 (by rw [← HLN.out]; exact e)))
                go_wp2_with fail
                go_quiet (fail)
                go_wp2
                go_ret
                exact ⟨congrArg Ending.returned HE.out.symm, below_drewN (HB'.out _) nq⟩
          · by_cases h3 : (5 : Int) ≤ last
            · have hd : decide ((5 : Int) ≤ last) = true := decide_eq_true h3
              have HE : Hid (errV (rankE (-1) h) = .iface 56 (.int .i64 3)) := HR.out.says3 HX.out (by omega) (Or.inl h3)
              go_wp2_with fail
              go_quiet (fail)
              go_wp2
              go_ret
              exact ⟨congrArg Ending.returned HE.out.symm, below_drewN (HB'.out _) nq⟩
            · have hd : decide ((5 : Int) ≤ last) = false := decide_eq_false h3
              by_cases h4 : ln = 32
              · subst h4
                have HR' : Hid (Ranks h (i + 1) 5 (all + l.length)) := HR.out.step HX.out (by omega) (fun e => e.elim (fun a => h3 a) (fun a => a HLN.out))
                go_wp2_with fail
                go_quiet (fail)
                go_wp2
                go_roundg (n - (i + 1))
                case measure => omega
                case rel => exact ⟨i + 1, _, 5, rfl, by go_num, by omega, Nat.le_refl _, HR', below_drewN (HB'.out _) nq⟩
              · have hne : ((ln : Int) != 32) = true := by rw [bne_iff_ne]; omega
                have HE : Hid (errV (rankE (-1) h) = .iface 56 (.int .i64 3)) := HR.out.says3 HX.out (by omega) (Or.inr (fun e => h4 (by rw [← HLN.out]; exact e)))
                go_wp2_with fail
                go_quiet (fail)
                go_wp2
                go_ret
                exact ⟨congrArg Ending.returned HE.out.symm, below_drewN (HB'.out _) nq⟩
    · obtain rfl : i = n := by omega
      have HE : Hid (errV (rankE (-1) h) = .nilIface) := by show _ = _; have := HR.out; rw [← HN.out] at this; rw [this.ok.1]; rfl
      go_wp2
      go_ret
      exact ⟨congrArg Ending.returned HE.out.symm, HB.out⟩
#print axioms ranks_some
end Go.Proofs.YtmkjalpgeljnkaaDoor

/-
  Package bino: six lists of items as the value of an array, by rank.
-/
namespace Go.Proofs.YtmkjalpgeljnkaaDoor
open Go.RowKit Go.Sort Go.Proofs

/-- Slices as the value of an array. -/
def agV (d : List SlV) : Value := .agg (d.map fun s => Value.slice s.1 s.2.1 s.2.2).toArray
/-- Six slices that hold the lists f, rank by rank. -/
def DgAt (w : World) (d : List SlV) (f : Nat → List (Int × Int)) : Prop := d.length = 6 ∧ ∀ j, j < 6 → ∃ s, d[j]? = some s ∧ Sl w (.slice s.1 s.2.1 s.2.2) (f j).toArray
theorem six {d : List SlV} (h : d.length = 6) : ∃ s0 s1 s2 s3 s4 s5, d = [s0, s1, s2, s3, s4, s5] := by
  match d, h with
  | [s0, s1, s2, s3, s4, s5], _ => exact ⟨s0, s1, s2, s3, s4, s5, rfl⟩
theorem DgAt.below {w w' : World} {d : List SlV} {f : Nat → List (Int × Int)} (h : DgAt w d f) (hb : Below w.heap.size w w') : DgAt w' d f :=
  ⟨h.1, fun j hj => by obtain ⟨s, a, b⟩ := h.2 j hj; exact ⟨s, a, b.below hb⟩⟩
theorem DgAt.start (w : World) : DgAt w (List.replicate 6 (none, 0, 0)) (fun _ => []) :=
  ⟨by simp, fun j hj => ⟨(none, 0, 0), by rw [List.getElem?_replicate, if_pos hj], Sl.nil w⟩⟩
theorem DgAt.congr {w : World} {d : List SlV} {f g : Nat → List (Int × Int)} (h : DgAt w d f) (e : ∀ j, j < 6 → f j = g j) : DgAt w d g :=
  ⟨h.1, fun j hj => by rw [← e j hj]; exact h.2 j hj⟩
theorem DgAt.set {w : World} {d : List SlV} {f : Nat → List (Int × Int)} (h : DgAt w d f) {r : Nat} {s : SlV} {l : List (Int × Int)} (hs : Sl w (.slice s.1 s.2.1 s.2.2) l.toArray) : DgAt w (d.set r s) (fun j => if j = r then l else f j) := by
  refine ⟨by rw [List.length_set]; exact h.1, fun j hj => ?_⟩
  show ∃ u : SlV, _ ∧ Sl w _ (if j = r then l else f j).toArray
  by_cases q : j = r
  · subst q
    rw [if_pos rfl]
    exact ⟨s, by rw [List.getElem?_set_self (by rw [h.1]; exact hj)], hs⟩
  · rw [if_neg q]
    obtain ⟨s', e', hs'⟩ := h.2 j hj
    exact ⟨s', by rw [List.getElem?_set_ne (fun c => q c.symm)]; exact e', hs'⟩
theorem digitH_take {h : List TrL} {i r : Nat} {l : List (Int × Int)} (hp : h.Pairwise (fun a b => a.1 < b.1)) (hi : h[i]? = some (r, l)) (j : Nat) : (if j = r then l else digitH (h.take i) j) = digitH (h.take (i + 1)) j := by
  obtain ⟨hlt, e⟩ := List.getElem?_eq_some_iff.1 hi
  have et : h.take (i + 1) = h.take i ++ [(r, l)] := by rw [List.take_succ_eq_append_getElem hlt, e]
  have hlow : ∀ t ∈ h.take i, t.1 < r := fun t ht => by
    obtain ⟨j, hj, rfl⟩ := List.getElem_of_mem ht
    rw [List.length_take] at hj
    rw [List.getElem_take]
    have := List.pairwise_iff_getElem.1 hp j i (by omega) hlt (by omega)
    rw [e] at this
    exact this
  rw [et, digitH_snoc hlow]
/-- Six slices in memory. -/
theorem WrE.six {w : World} {blk : Nat} {s0 s1 s2 s3 s4 s5 : SlV} (h : WrE ES w blk 0 [s0, s1, s2, s3, s4, s5]) :
    (w.cell? ⟨blk, 0, none⟩ = some (.slice s0.1 s0.2.1 s0.2.2) ∧ w.cell? ⟨blk, 1, none⟩ = some (.slice s1.1 s1.2.1 s1.2.2) ∧ w.cell? ⟨blk, 2, none⟩ = some (.slice s2.1 s2.2.1 s2.2.2) ∧ w.cell? ⟨blk, 3, none⟩ = some (.slice s3.1 s3.2.1 s3.2.2) ∧ w.cell? ⟨blk, 4, none⟩ = some (.slice s4.1 s4.2.1 s4.2.2) ∧ w.cell? ⟨blk, 5, none⟩ = some (.slice s5.1 s5.2.1 s5.2.2)) ∧
    (w.frozen? ⟨blk, 0, none⟩ = false ∧ w.frozen? ⟨blk, 1, none⟩ = false ∧ w.frozen? ⟨blk, 2, none⟩ = false ∧ w.frozen? ⟨blk, 3, none⟩ = false ∧ w.frozen? ⟨blk, 4, none⟩ = false ∧ w.frozen? ⟨blk, 5, none⟩ = false) :=
  ⟨⟨(h.row (i := 0) rfl).1, (h.row (i := 1) rfl).1, (h.row (i := 2) rfl).1, (h.row (i := 3) rfl).1, (h.row (i := 4) rfl).1, (h.row (i := 5) rfl).1⟩,
   ⟨(h.row (i := 0) rfl).2, (h.row (i := 1) rfl).2, (h.row (i := 2) rfl).2, (h.row (i := 3) rfl).2, (h.row (i := 4) rfl).2, (h.row (i := 5) rfl).2⟩⟩
/-- A new array of six. -/
theorem new_six (w : World) (s0 s1 s2 s3 s4 s5 : SlV) (T : TypeId) : WrE ES (w.alloc (.cells #[.slice s0.1 s0.2.1 s0.2.2, .slice s1.1 s1.2.1 s1.2.2, .slice s2.1 s2.2.1 s2.2.2, .slice s3.1 s3.2.1 s3.2.2, .slice s4.1 s4.2.1 s4.2.2, .slice s5.1 s5.2.1 s5.2.2] T)) w.heap.size 0 [s0, s1, s2, s3, s4, s5] := by
  refine ⟨⟨by simp, fun j v hv => ?_⟩, fun j hj => by simp⟩
  rw [Nat.zero_add]
  match j, hv with
  | 0, hv => cases hv; simp
  | 1, hv => cases hv; simp
  | 2, hv => cases hv; simp
  | 3, hv => cases hv; simp
  | 4, hv => cases hv; simp
  | 5, hv => cases hv; simp
  | j + 6, hv => simp [El.flat, ES, encS] at hv
theorem new_nils (w : World) (T : TypeId) : WrE ES (w.alloc (.cells #[.slice none 0 0, .slice none 0 0, .slice none 0 0, .slice none 0 0, .slice none 0 0, .slice none 0 0] T)) w.heap.size 0 (List.replicate 6 (none, 0, 0)) :=
  new_six w (none, 0, 0) (none, 0, 0) (none, 0, 0) (none, 0, 0) (none, 0, 0) (none, 0, 0) T
theorem WrE.alloc' {P : Program} {α : Type} {E : El P α} {w : World} {blk off : Nat} {d : List α} (h : WrE E w blk off d) (o : Obj) : WrE E (w.alloc o) blk off d := h.kept (World.grownBy_alloc w o none) (by simp)
theorem below_six {B blk : Nat} {a w : World} (h : Below B a w) (hB : B ≤ blk) (u0 u1 u2 u3 u4 u5 : Value) : Below B a ((((((w.setCell ⟨blk, 0, none⟩ u0).setCell ⟨blk, 1, none⟩ u1).setCell ⟨blk, 2, none⟩ u2).setCell ⟨blk, 3, none⟩ u3).setCell ⟨blk, 4, none⟩ u4).setCell ⟨blk, 5, none⟩ u5) :=
  (((((h.setCell (p := ⟨blk, 0, none⟩) hB _).setCell (p := ⟨blk, 1, none⟩) hB _).setCell (p := ⟨blk, 2, none⟩) hB _).setCell (p := ⟨blk, 3, none⟩) hB _).setCell (p := ⟨blk, 4, none⟩) hB _).setCell (p := ⟨blk, 5, none⟩) hB _
theorem SlB.nil (F B : Option Nat) (w : World) : SlB F w B (.slice none 0 0) [] := ⟨none, 0, rfl, Nat.le_refl _, Or.inl rfl⟩
/-- .. where the block F is written. -/
theorem SlB.apart {f : Nat} {w w' : World} {B : Option Nat} {v : Value} {l : List (Int × Int)} (h : SlB (some f) w B v l) (hg : w.grownBy w' (some f)) : SlB (some f) w' B v l := by
  obtain ⟨p, c, rfl, hc, h | ⟨blk, off, rfl, hn, hf, hr⟩⟩ := h
  · exact ⟨p, c, rfl, hc, Or.inl h⟩
  · exact ⟨_, c, rfl, hc, Or.inr ⟨blk, off, rfl, hn, hf, hr.keptB hg hf⟩⟩
/-- .. where the block B is written. -/
theorem SlB.apartB {b : Nat} {F : Option Nat} {w w' : World} {v : Value} {l : List (Int × Int)} (h : SlB F w (some b) v l) (hg : w.grownBy w' (some b)) : SlB F w' (some b) v l := h.kept hg (Or.inl rfl)
/-- Six slices that hold the lists f, rank by rank, apart from two blocks. -/
def DgB (F : Option Nat) (w : World) (B : Option Nat) (d : List SlV) (f : Nat → List (Int × Int)) : Prop := d.length = 6 ∧ ∀ j, j < 6 → ∃ s, d[j]? = some s ∧ SlB F w B (.slice s.1 s.2.1 s.2.2) (f j)
theorem DgB.at {F B : Option Nat} {w : World} {d : List SlV} {f : Nat → List (Int × Int)} (h : DgB F w B d f) : DgAt w d f :=
  ⟨h.1, fun j hj => by obtain ⟨s, a, b⟩ := h.2 j hj; exact ⟨s, a, b.sl⟩⟩
theorem DgB.below {F B : Option Nat} {w w' : World} {d : List SlV} {f : Nat → List (Int × Int)} (h : DgB F w B d f) (hb : Below w.heap.size w w') : DgB F w' B d f :=
  ⟨h.1, fun j hj => by obtain ⟨s, a, b⟩ := h.2 j hj; exact ⟨s, a, b.below hb⟩⟩
theorem DgB.apart {f : Nat} {B : Option Nat} {w w' : World} {d : List SlV} {x : Nat → List (Int × Int)} (h : DgB (some f) w B d x) (hg : w.grownBy w' (some f)) : DgB (some f) w' B d x :=
  ⟨h.1, fun j hj => by obtain ⟨s, a, b⟩ := h.2 j hj; exact ⟨s, a, b.apart hg⟩⟩
theorem DgB.apartB {b : Nat} {F : Option Nat} {w w' : World} {d : List SlV} {x : Nat → List (Int × Int)} (h : DgB F w (some b) d x) (hg : w.grownBy w' (some b)) : DgB F w' (some b) d x :=
  ⟨h.1, fun j hj => by obtain ⟨s, a, b⟩ := h.2 j hj; exact ⟨s, a, b.apartB hg⟩⟩
theorem DgB.start (F B : Option Nat) (w : World) : DgB F w B (List.replicate 6 (none, 0, 0)) (fun _ => []) :=
  ⟨by simp, fun j hj => ⟨(none, 0, 0), by rw [List.getElem?_replicate, if_pos hj], SlB.nil F B w⟩⟩
theorem DgB.congr {F B : Option Nat} {w : World} {d : List SlV} {f g : Nat → List (Int × Int)} (h : DgB F w B d f) (e : ∀ j, j < 6 → f j = g j) : DgB F w B d g :=
  ⟨h.1, fun j hj => by rw [← e j hj]; exact h.2 j hj⟩
theorem DgB.set {F B : Option Nat} {w : World} {d : List SlV} {f : Nat → List (Int × Int)} (h : DgB F w B d f) {r : Nat} {s : SlV} {l : List (Int × Int)} (hs : SlB F w B (.slice s.1 s.2.1 s.2.2) l) : DgB F w B (d.set r s) (fun j => if j = r then l else f j) := by
  refine ⟨by rw [List.length_set]; exact h.1, fun j hj => ?_⟩
  show ∃ u : SlV, _ ∧ SlB F w B _ (if j = r then l else f j)
  by_cases q : j = r
  · subst q
    rw [if_pos rfl]
    exact ⟨s, by rw [List.getElem?_set_self (by rw [h.1]; exact hj)], hs⟩
  · rw [if_neg q]
    obtain ⟨s', e', hs'⟩ := h.2 j hj
    exact ⟨s', by rw [List.getElem?_set_ne (fun c => q c.symm)]; exact e', hs'⟩
theorem gb_six {w w' : World} {blk : Nat} (h : w.grownBy w' (some blk)) (u0 u1 u2 u3 u4 u5 : Value) : w.grownBy ((((((w'.setCell ⟨blk, 0, none⟩ u0).setCell ⟨blk, 1, none⟩ u1).setCell ⟨blk, 2, none⟩ u2).setCell ⟨blk, 3, none⟩ u3).setCell ⟨blk, 4, none⟩ u4).setCell ⟨blk, 5, none⟩ u5) (some blk) :=
  gb_set (gb_set (gb_set h 0 1 u0 u1) 2 3 u2 u3) 4 5 u4 u5
/-- Two new arrays of six noughts. -/
theorem new_two (w : World) (T : TypeId) : WrE ES ((w.alloc (.cells #[.slice none 0 0, .slice none 0 0, .slice none 0 0, .slice none 0 0, .slice none 0 0, .slice none 0 0] T)).alloc (.cells #[.slice none 0 0, .slice none 0 0, .slice none 0 0, .slice none 0 0, .slice none 0 0, .slice none 0 0] T)) (w.heap.size + 1) 0 (List.replicate 6 (none, 0, 0)) ∧
    WrE ES ((w.alloc (.cells #[.slice none 0 0, .slice none 0 0, .slice none 0 0, .slice none 0 0, .slice none 0 0, .slice none 0 0] T)).alloc (.cells #[.slice none 0 0, .slice none 0 0, .slice none 0 0, .slice none 0 0, .slice none 0 0, .slice none 0 0] T)) w.heap.size 0 (List.replicate 6 (none, 0, 0)) ∧
    Below w.heap.size w ((w.alloc (.cells #[.slice none 0 0, .slice none 0 0, .slice none 0 0, .slice none 0 0, .slice none 0 0, .slice none 0 0] T)).alloc (.cells #[.slice none 0 0, .slice none 0 0, .slice none 0 0, .slice none 0 0, .slice none 0 0, .slice none 0 0] T)) := by
  refine ⟨?_, (new_nils w T).alloc' _, ((Below.refl _ _).alloc (Nat.le_refl _) _).alloc (by simp) _⟩
  have h := new_nils (w.alloc (.cells #[.slice none 0 0, .slice none 0 0, .slice none 0 0, .slice none 0 0, .slice none 0 0, .slice none 0 0] T)) T
  have e : (w.alloc (.cells #[.slice none 0 0, .slice none 0 0, .slice none 0 0, .slice none 0 0, .slice none 0 0, .slice none 0 0] T)).heap.size = w.heap.size + 1 := by simp
  rw [e] at h
  exact h
end Go.Proofs.YtmkjalpgeljnkaaDoor
