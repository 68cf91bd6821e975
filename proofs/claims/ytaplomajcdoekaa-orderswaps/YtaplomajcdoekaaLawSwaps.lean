/-
  The law OrderSwaps, walked: neighbour by neighbour.
-/
import Derived.Test.YtaplomajcdoekaaInvMath
import Derived.Test.YtaplomajcdoekaaKnownW
import Derived.Test.YtaplomajcdoekaaOwn
namespace Go.Proofs.Ytaplomajcdoekaa
open Go.RowKit Go.Sort Go.Proofs

theorem flatL_set (l : List (Int × Int)) : ∀ (i : Nat) (x : Int × Int), flatL (l.set i x) = ((flatL l).set (i * 2) (.int .i64 x.1)).set (i * 2 + 1) (.int .i64 x.2) := by
  induction l with
  | nil => intro i x; simp [flatL]
  | cons y r ih =>
    intro i x
    match i with
    | 0 => rfl
    | i + 1 =>
      have e : ∀ (z : Int × Int) (q : List (Int × Int)), flatL (z :: q) = .int .i64 z.1 :: .int .i64 z.2 :: flatL q := fun _ _ => rfl
      rw [List.set_cons_succ, e, e, ih i x, show (i + 1) * 2 = i * 2 + 1 + 1 by omega, show i * 2 + 1 + 1 + 1 = (i * 2 + 1) + 1 + 1 by omega]
      rfl
/-- Two neighbours in each other's place. -/
def swapL (xs : Array (Int × Int)) (i : Nat) : List (Int × Int) := (xs.toList.set (i + 1) xs[i]!).set i xs[i + 1]!
theorem split_two (xs : Array (Int × Int)) (i : Nat) (h : i + 1 < xs.size) : xs.toList = xs.toList.take i ++ xs[i]! :: xs[i + 1]! :: xs.toList.drop (i + 2) := by
  have h1 : i < xs.toList.length := by simp; omega
  have h2 : i + 1 < xs.toList.length := by simpa using h
  rw [← getD_toList xs i h1, ← getD_toList xs (i + 1) h2, List.getElem_cons_drop h2, List.getElem_cons_drop h1, List.take_append_drop]
theorem swapL_eq (xs : Array (Int × Int)) (i : Nat) (h : i + 1 < xs.size) : swapL xs i = xs.toList.take i ++ xs[i + 1]! :: xs[i]! :: xs.toList.drop (i + 2) := by
  have hl : (xs.toList.take i).length = i := by simp; omega
  unfold swapL
  generalize hx : xs[i]! = x
  generalize hy : xs[i + 1]! = y
  have e := split_two xs i h
  rw [hx, hy] at e
  generalize xs.toList.take i = A at e hl ⊢
  generalize xs.toList.drop (i + 2) = B at e ⊢
  rw [e, List.set_append_right _ _ (by omega), hl, show i + 1 - i = 1 by omega, List.set_append_right _ _ (by omega), hl, Nat.sub_self]
  rfl
theorem swapL_perm (xs : Array (Int × Int)) (i : Nat) (h : i + 1 < xs.size) : xs.toList.Perm (swapL xs i) := by
  rw [swapL_eq xs i h]
  conv => lhs; rw [split_two xs i h]
  exact List.Perm.append_left _ (List.Perm.swap _ _ _)
theorem swapL_inv (xs : Array (Int × Int)) (i : Nat) (h : i + 1 < xs.size) : (invL (swapL xs i) : Int) = invL xs.toList + (if xs[i]!.1 < xs[i + 1]!.1 then 1 else 0) - (if xs[i + 1]!.1 < xs[i]!.1 then 1 else 0) := by
  rw [swapL_eq xs i h, inv_swap]
  conv => rhs; rw [split_two xs i h]
theorem rev_take (xs : Array (Int × Int)) (r j : Nat) (h : j + 1 + r = xs.size) : xs.toList.reverse.take (r + 1) = xs.toList.reverse.take r ++ [xs[j]!] := by
  have hr : r < xs.toList.reverse.length := by simp; omega
  rw [List.take_succ_eq_append_getElem hr, List.getElem_reverse, getD_toList]
  congr 3
  simp; omega
theorem inv_list {l : List (Int × Int)} (h : wrong l.toArray = 0) : invI l.toArray = invL l := by
  unfold invI; rw [if_pos h, invTo_all]
theorem invI_pair : invI #[(5, 1), (3, 2)] = 1 := by decide
theorem invI_good {xs : Array (Int × Int)} (h : wrong xs = 0) : invI xs = invL xs.toList := by unfold invI; rw [if_pos h, invTo_all]
theorem invL_le {xs : Array (Int × Int)} (h : xs.size ≤ 60) : invL xs.toList ≤ 3600 := by rw [← invTo_all]; have := invTo_le xs xs.size h; omega

theorem pair_inv (w : World) : Calls Try.prog 14 #[.slice (some ⟨w.heap.size, 0, none⟩) 2 2] (w.alloc (.cells #[.int .i64 5, .int .i64 1, .int .i64 3, .int .i64 2] 36)) fun e w' =>
    e = .returned (.tuple #[.int .i64 1, .nilIface]) ∧ Below w.heap.size w w' := by
  have hc := inversions_any _ #[(5, 1), (3, 2)] _ (Sl.of_rd (cap := 2) (rd_pair w 5 1 3 2) (by decide)) (by decide)
  rw [wrong_pair, invI_pair] at hc
  exact hc.mono fun e w' ⟨h1, h2⟩ => ⟨h1, ((Below.refl _ _).alloc (Nat.le_refl _) _).trans (h2.mono (by simp))⟩

set_option maxHeartbeats 4000000 in
set_option maxRecDepth 4000 in
theorem orderSwaps_bad (p : Option Addr) (cap : Nat) (iv : Int) (xs : Array (Int × Int)) (w : World) (h : Sl w (.slice p xs.size cap) xs) (hbig : xs.size ≤ 9223372036854775807) (h0 : wrong xs ≠ 0) :
    Calls Try.prog 6 #[.slice p xs.size cap, .int .i64 iv] w fun e w' => e = .returned (.bool true) ∧ Below w.heap.size w w' := by
  have c1 := pair_inv w
  have cs := fun w1 (hb : Below w.heap.size w w1) => inversions_any _ xs w1 (h.below hb) hbig
  rw [show invI xs = 0 from if_neg h0, show errV (wrong xs) = .iface 23 (.int .i64 (wrong xs : Nat)) from if_neg h0] at cs
  generalize wrong xs = k at cs
  generalize xs.size = N at cs
  clear h h0
  have C2 : Hid (∀ w1, Below w.heap.size w w1 → Calls Try.prog 14 #[.slice p N cap] w1 fun e w' => e = .returned (.tuple #[.int .i64 0, .iface 23 (.int .i64 k)]) ∧ Below w1.heap.size w1 w') := cs
  clear cs
  go_enter Try.func6, Try.ntmps6
  go_wp2_with fail
  refine (pair_any 5 3 _).mono ?_
  rintro e w0 ⟨rfl, rfl⟩
  go_wp2_with fail
  refine c1.mono ?_
  rintro e w1 ⟨rfl, hb1⟩
  go_wp2_with fail
  refine (C2.out w1 hb1).mono ?_
  rintro e w2 ⟨rfl, hb2'⟩
  have hb2 := hb1.trans (hb2'.mono hb1.size)
  go_wp2
  go_ret
  exact ⟨rfl, hb2⟩

set_option maxHeartbeats 4000000 in
set_option maxRecDepth 4000 in
theorem orderSwaps_none (p : Option Addr) (cap : Nat) (iv : Int) (w : World) :
    Calls Try.prog 6 #[.slice p 0 cap, .int .i64 iv] w fun e w' => e = .returned (.bool true) ∧ Below w.heap.size w w' := by
  have hs : ∀ w1 q c, Sl w1 (.slice q 0 c) #[] := fun w1 q c => ⟨q, c, rfl, Nat.zero_le _, Or.inl rfl⟩
  have c1 := pair_inv w
  have C2 : Hid (∀ w1 q c, Calls Try.prog 14 #[.slice q 0 c] w1 fun e w' => e = .returned (.tuple #[.int .i64 0, .nilIface]) ∧ Below w1.heap.size w1 w') :=
    fun w1 q c => inversions_any (.slice q 0 c) #[] w1 (hs w1 q c) (by decide)
  have C3 : Hid (∀ w1, Calls Try.prog 11 #[.slice p 0 cap] w1 fun e w' => e = .returned (.tuple #[.bool true, .nilIface]) ∧ Below w1.heap.size w1 w') :=
    fun w1 => sorted_any (.slice p 0 cap) #[] w1 (hs w1 p cap) (by decide)
  clear hs
  go_enter Try.func6, Try.ntmps6
  go_wp2_with fail
  refine (pair_any 5 3 _).mono ?_
  rintro e w0 ⟨rfl, rfl⟩
  go_wp2_with fail
  refine c1.mono ?_
  rintro e w1 ⟨rfl, hb1⟩
  go_wp2_with fail
  refine (C2.out w1 p cap).mono ?_
  rintro e w2 ⟨rfl, hb2'⟩
  have hb2 := hb1.trans (hb2'.mono hb1.size)
  go_wp2_with fail
  refine (C3.out w2).mono ?_
  rintro e w3 ⟨rfl, hb3'⟩
  have hb3 := hb2.trans (hb3'.mono hb2.size)
  go_wp2
  go_loopg [11, 12, 13] 0 (fun gg va vu vj wr => va = .slice none 0 0 ∧ vu = .int .i64 0 ∧ vj = .int .i64 (-1) ∧ Below w.heap.size w wr)
  case atStart => exact ⟨rfl, rfl, rfl, hb3⟩
  case round =>
    obtain ⟨rfl, rfl, rfl, hbr⟩ := hrel
    go_wp2_with fail
    refine (C2.out _ none 0).mono ?_
    rintro e w5 ⟨rfl, hb5'⟩
    have hb5 := hbr.trans (hb5'.mono hbr.size)
    by_cases hi1 : iv < 1
    · go_wp2
      go_ret
      exact ⟨rfl, hb5⟩
    · have hi2 : (0 : Int) ≤ iv := by omega
      go_wp2
      go_ret
      exact ⟨rfl, hb5⟩

theorem flatL_one (l : List (Int × Int)) : ∀ u ∈ flatL l, u.oneCell' = true := by
  intro u hu
  simp only [flatL, List.mem_flatMap] at hu
  obtain ⟨x, _, h⟩ := hu
  exact encI_one x u h
theorem RdAt.flatL {w : World} {blk off : Nat} {xs : Array (Int × Int)} (h : RdAt w blk off xs) (j : Nat) (u : Value) (hu : (flatL xs.toList)[j]? = some u) : w.cell? ((⟨blk, off, none⟩ : Addr).add j) = some u := by
  have hj : j < xs.size * 2 := by
    have := (List.getElem?_eq_some_iff.1 hu).1
    rw [flatL_len] at this; simpa using this
  have hi : j / 2 < xs.toList.length := by simp; omega
  have hq := flatL_get xs.toList (j / 2) hi
  have hc := h.2 (j / 2) (by omega)
  rw [getD_toList] at hq
  rw [show ((⟨blk, off, none⟩ : Addr).add j) = ⟨blk, off + j, none⟩ by unfold Addr.add; split <;> simp_all]
  rcases Nat.mod_two_eq_zero_or_one j with e | e
  · rw [show j / 2 * 2 = j by omega] at hq hc
    rw [hq.1] at hu
    rw [← hu]; exact hc.1
  · have e2 : j / 2 * 2 + 1 = j := by omega
    rw [e2] at hq
    rw [hq.2] at hu
    rw [show off + j = off + j / 2 * 2 + 1 by omega, ← hu]; exact hc.2
theorem own_of_append {w : World} {base n : Nat} {v : Value} {l : List (Int × Int)} (hl : l.length = n) (hn : 0 < n) (h : w.ownsRow base 36 2 v (0 + n) ([] ++ flatL l)) :
    ∃ g cp, v = .slice (some ⟨g, 0, none⟩) n cp ∧ base ≤ g ∧ g < w.heap.size ∧ OwnI w base (.slice (some ⟨g, 0, none⟩) n cp) l := by
  rw [Nat.zero_add, List.nil_append] at h
  obtain ⟨_, ⟨_, h0⟩ | ⟨g, cp, cur, rfl, hb, hg, _⟩⟩ := id h
  · omega
  · exact ⟨g, cp, rfl, hb, (Array.getElem?_eq_some_iff.1 hg).1, by unfold OwnI; rw [hl]; exact h⟩

/-- The row behind the two stores. -/
theorem swapped_own {w : World} {base g n cp ip : Nat} {xs : Array (Int × Int)} {x0 x1 y0 y1 : Int} (hn : xs.toList.length = n) (h : OwnI w base (.slice (some ⟨g, 0, none⟩) n cp) xs.toList) (hx : xs[ip]! = (x0, x1)) (hy : xs[ip + 1]! = (y0, y1)) :
    OwnI ((((w.setCell ⟨g, (ip + 1) * 2, none⟩ (.int .i64 x0)).setCell ⟨g, (ip + 1) * 2 + 1, none⟩ (.int .i64 x1)).setCell ⟨g, ip * 2, none⟩ (.int .i64 y0)).setCell ⟨g, ip * 2 + 1, none⟩ (.int .i64 y1)) base (.slice (some ⟨g, 0, none⟩) n cp) (swapL xs ip) := by
  subst hn
  have h1 := (World.ownsRow.stored h ((ip + 1) * 2) (.int .i64 x0)).1
  have h2 := (World.ownsRow.stored h1 ((ip + 1) * 2 + 1) (.int .i64 x1)).1
  have h3 := (World.ownsRow.stored h2 (ip * 2) (.int .i64 y0)).1
  have h4 := (World.ownsRow.stored h3 (ip * 2 + 1) (.int .i64 y1)).1
  have e : flatL (swapL xs ip) = ((((flatL xs.toList).set ((ip + 1) * 2) (.int .i64 x0)).set ((ip + 1) * 2 + 1) (.int .i64 x1)).set (ip * 2) (.int .i64 y0)).set (ip * 2 + 1) (.int .i64 y1) := by
    unfold swapL; rw [flatL_set, flatL_set, hx, hy]
  have el : (swapL xs ip).length = xs.toList.length := by unfold swapL; simp
  unfold OwnI
  rw [e, el]
  exact h4

/-- What is left when all is turned round and counted: the neighbours. -/
theorem own_cells {w : World} {base g n cp : Nat} {l : List (Int × Int)} (h : OwnI w base (.slice (some ⟨g, 0, none⟩) n cp) l) (hn : l.length = n) {i : Nat} (hi : i < n) :
    ∃ u v, w.cell? ⟨g, i * 2, none⟩ = some u ∧ w.cell? ⟨g, i * 2 + 1, none⟩ = some v ∧ w.frozen? ⟨g, i * 2, none⟩ = false ∧ w.frozen? ⟨g, i * 2 + 1, none⟩ = false := by
  subst hn
  have hq := flatL_get l i hi
  exact ⟨_, _, (World.ownsRow.cellAt h _ (by omega)).trans hq.1, (World.ownsRow.cellAt h _ (by omega)).trans hq.2, World.ownsRow.frozenAt h _, World.ownsRow.frozenAt h _⟩

theorem swaps_facts {w4 w6 ws : World} {blk off r ip : Nat} {xs : Array (Int × Int)} {vs : Value} {x0 x1 y0 y1 : Int} (hb6 : Below w4.heap.size w4 w6) (hx4 : RdAt w4 blk off xs) (hN : xs.size = r) (hx : xs[ip]! = (x0, x1)) (hy : xs[ip + 1]! = (y0, y1)) (hip : ip + 1 < r)
    (hs : ws.ownsRow w4.heap.size 36 2 vs (0 + r) ([] ++ flatL xs.toList)) (hgs : w6.grownBy ws (Value.slice none 0 0).ownBlock) :
    ∃ g cp u2 v2 u3 v3, vs = .slice (some ⟨g, 0, none⟩) r cp ∧ w4.heap.size ≤ g ∧ OwnI ws w4.heap.size (.slice (some ⟨g, 0, none⟩) r cp) xs.toList ∧ Below w4.heap.size w4 ws ∧
      ws.cell? ⟨blk, off + ip * 2, none⟩ = some (.int .i64 x0) ∧ ws.cell? ⟨blk, off + ip * 2 + 1, none⟩ = some (.int .i64 x1) ∧ ws.cell? ⟨blk, off + (ip + 1) * 2, none⟩ = some (.int .i64 y0) ∧ ws.cell? ⟨blk, off + (ip + 1) * 2 + 1, none⟩ = some (.int .i64 y1) ∧
      ws.cell? ⟨g, (ip + 1) * 2, none⟩ = some u2 ∧ ws.cell? ⟨g, (ip + 1) * 2 + 1, none⟩ = some v2 ∧ ws.frozen? ⟨g, (ip + 1) * 2, none⟩ = false ∧ ws.frozen? ⟨g, (ip + 1) * 2 + 1, none⟩ = false ∧
      ws.cell? ⟨g, ip * 2, none⟩ = some u3 ∧ ws.cell? ⟨g, ip * 2 + 1, none⟩ = some v3 ∧ ws.frozen? ⟨g, ip * 2, none⟩ = false ∧ ws.frozen? ⟨g, ip * 2 + 1, none⟩ = false ∧ blk ≠ g := by
  have hll : xs.toList.length = r := by simp [hN]
  obtain ⟨g, cp, hvs, hg4, hglt, hown⟩ := own_of_append hll (by omega) hs
  have hbs : Below w4.heap.size w4 ws := hb6.grown hgs hb6.size (fun k e => by simp [Value.ownBlock] at e)
  have hrd := hx4.below hbs hx4.1
  have a := hrd.2 ip (by omega)
  have b := hrd.2 (ip + 1) (by omega)
  rw [hx] at a
  rw [hy] at b
  obtain ⟨u2, v2, o1, o2, o3, o4⟩ := own_cells hown hll (i := ip + 1) hip
  obtain ⟨u3, v3, o5, o6, o7, o8⟩ := own_cells hown hll (i := ip) (by omega)
  have := hx4.1
  exact ⟨g, cp, u2, v2, u3, v3, hvs, hg4, hown, hbs, a.1, a.2, b.1, b.2, o1, o2, o3, o4, o5, o6, o7, o8, by omega⟩

set_option maxHeartbeats 16000000 in
set_option maxRecDepth 4000 in
theorem orderSwaps_some (blk off N cap : Nat) (iv : Int) (xs : Array (Int × Int)) (w : World) (h : RdAt w blk off xs) (hN : xs.size = N) (hpos : 0 < N) (hcap : N ≤ cap) (h0 : wrong xs = 0) :
    Calls Try.prog 6 #[.slice (some ⟨blk, off, none⟩) N cap, .int .i64 iv] w fun e w' => e = .returned (.bool true) ∧ Below w.heap.size w w' := by
  have h60 := wrong_le h0
  have hIle := invL_le h60
  have hU := uSum_all xs
  have hUle := uSum_le xs xs.size h60 xs.size
  have hrev := inv_rev xs.toList
  have hsorted := inv_sorted xs
  rw [invTo_all] at hsorted
  have c1 := pair_inv w
  have cs := fun w1 (hb : Below w.heap.size w w1) => inversions_any _ xs w1 (Sl.of_rd (cap := cap) (h.below hb h.1) (by omega)) (by omega)
  have ct := fun w1 (hb : Below w.heap.size w w1) => sorted_any _ xs w1 (Sl.of_rd (cap := cap) (h.below hb h.1) (by omega)) (by omega)
  rw [h0, invI_good h0, errV_zero] at cs
  rw [h0, errV_zero, hsorted, decide_eq_true rfl, Bool.true_and] at ct
  rw [hN] at cs ct h60 hU hUle
  obtain ⟨I, hI⟩ : ∃ I, invL xs.toList = I := ⟨_, rfl⟩
  rw [hI] at cs ct hIle hrev
  have eI : decide (I = 0) = ((I : Int) == 0) := by
    rw [Bool.eq_iff_iff]; simp
  rw [eI] at ct
  have C2 : Hid (∀ w1, Below w.heap.size w w1 → Calls Try.prog 14 #[.slice (some ⟨blk, off, none⟩) N cap] w1 fun e w' => e = .returned (.tuple #[.int .i64 I, .nilIface]) ∧ Below w1.heap.size w1 w') := cs
  have C3 : Hid (∀ w1, Below w.heap.size w w1 → Calls Try.prog 11 #[.slice (some ⟨blk, off, none⟩) N cap] w1 fun e w' => e = .returned (.tuple #[.bool ((I : Int) == 0), .nilIface]) ∧ Below w1.heap.size w1 w') := ct
  have HX : Hid (RdAt w blk off xs) := h
  have HN : Hid (xs.size = N) := hN
  have H0 : Hid (wrong xs = 0) := h0
  have HI : Hid (invL xs.toList = I) := hI
  have HREV : Hid (I + invL xs.toList.reverse = unL xs.toList) := hrev
  have HU : Hid (uSum xs N N = unL xs.toList) := hU
  clear h hN h0 hI hrev hU hUle hsorted cs ct eI
  go_enter Try.func6, Try.ntmps6
  go_wp2_with fail
  refine (pair_any 5 3 _).mono ?_
  rintro e w0 ⟨rfl, rfl⟩
  go_wp2_with fail
  refine c1.mono ?_
  rintro e w1 ⟨rfl, hb1⟩
  go_wp2_with fail
  refine (C2.out w1 hb1).mono ?_
  rintro e w2 ⟨rfl, hb2'⟩
  have hb2 := hb1.trans (hb2'.mono hb1.size)
  go_wp2_with fail
  refine (C3.out w2 hb2).mono ?_
  rintro e w4 ⟨rfl, hb4'⟩
  have hb4 := hb2.trans (hb4'.mono hb2.size)
  have HX4 : Hid (RdAt w4 blk off xs) := HX.out.below hb4 HX.out.1
  clear hb4' hb2 hb2' hb1 C2 C3 c1 HX
  go_wp2
  go_loopg [11, 12, 13] N (fun gg va vu vj wr => ∃ j1 r : Nat, vj = .int .i64 ((j1 : Int) - 1) ∧ vu = .int .i64 (uSum xs N r) ∧ j1 + r = N ∧ j1 ≤ gg ∧ OwnI wr w4.heap.size va (xs.toList.reverse.take r) ∧ Below w4.heap.size w4 wr)
  case atStart => exact ⟨N, 0, rfl, rfl, by omega, Nat.le_refl _, OwnI.nil _ _, Below.refl _ _⟩
  case round =>
    obtain ⟨j1, r, rfl, rfl, hjr, hg, HA, hbr⟩ := hrel
    have hur := uSum_le xs N h60 r
    obtain ⟨S, hS⟩ : ∃ S, uSum xs N r = S := ⟨_, rfl⟩
    by_cases hj0 : 0 < j1
    · obtain ⟨j, rfl⟩ : ∃ j, j1 = j + 1 := ⟨j1 - 1, by omega⟩
      obtain ⟨wo, rfl⟩ : ∃ wo : World, wo = wr := ⟨_, rfl⟩
      rw [show ((j + 1 : Nat) : Int) - 1 = (j : Int) by omega]
      rw [hS] at hur ⊢
      have HS : Hid (uSum xs N r = S) := hS
      clear hS
      have hjN : j < N := by omega
      have hjz : (j : Int) < (N : Int) := by omega
      have hj00 : (0 : Int) ≤ (j : Int) := by omega
      obtain ⟨x0, x1, hx⟩ : ∃ x y, xs[j]! = (x, y) := ⟨_, _, rfl⟩
      have hrt := rev_take xs r j (by have := HN.out; omega)
      rw [hx] at hrt
      have HRT : Hid (xs.toList.reverse.take (r + 1) = xs.toList.reverse.take r ++ [(x0, x1)]) := hrt
      have HXX : Hid (xs[j]! = (x0, x1)) := hx
      obtain ⟨cx0, cx1⟩ := (RdAt.below HX4.out hbr HX4.out.1).2 j (by rw [HN.out]; exact hjN)
      rw [hx] at cx0 cx1
      clear hx hrt
      have hB4 : w4.heap.size ≤ wo.heap.size := hbr.size
      go_wp2_with (first | (at_builtin; refine wpList_append_item rfl (.tmp 61) (.tmp 66) rfl w4.heap.size u11 (xs.toList.reverse.take r) (x0, x1) ⟨wo.heap.size, 0, none⟩ 1 rfl (HA.alloc _) rfl (by simp) (by simp [Addr.add]) (by have := List.length_take_le r xs.toList.reverse; omega) (by simp; omega) ?_; intro va' wa hA' hgA hkA; have hbA : Below w4.heap.size w4 wa := (hbr.alloc hB4 (.cells #[.int .i64 x0, .int .i64 x1] 36)).trans (below_of_grown (HA.alloc _) hgA (Nat.le_refl _) (by simp; omega)); clear hgA hkA))
      clear HA hbr cx0 cx1
      go_loopg [12, 14] j (fun gg vu vk wr => ∃ m q : Nat, vk = .int .i64 m ∧ vu = .int .i64 ((S : Int) + (uRow xs j m : Int)) ∧ m + gg = j ∧ wr = wa.drewN q)
      case atStart => exact ⟨0, 0, rfl, by simp [uRow], by omega, rfl⟩
      case round =>
        obtain ⟨m, q, rfl, rfl, hgm, rfl⟩ := hrel
        have hum := uRow_le xs j m
        have hrow : uRow xs j (m + 1) = uRow xs j m + if xs[m]!.1 = xs[j]!.1 then 0 else 1 := rfl
        obtain ⟨R, hR⟩ : ∃ R, uRow xs j m = R := ⟨_, rfl⟩
        rw [hR] at hum hrow ⊢
        by_cases hmt : m < j
        · have hmz : (m : Int) < (j : Int) := by omega
          have hmN : (m : Int) < (N : Int) := by omega
          obtain ⟨z0, z1, hz⟩ : ∃ x y, xs[m]! = (x, y) := ⟨_, _, rfl⟩
          obtain ⟨cx0, cx1⟩ := (RdAt.below HX4.out hbA HX4.out.1).2 j (by rw [HN.out]; exact hjN)
          obtain ⟨cz0, cz1⟩ := (RdAt.below HX4.out hbA HX4.out.1).2 m (by rw [HN.out]; omega)
          rw [HXX.out] at cx0 cx1 hrow
          rw [hz] at cz0 cz1 hrow
          have HROW : Hid (uRow xs j (m + 1) = R + if z0 = x0 then 0 else 1) := hrow
          clear hz hrow hR
          by_cases he : z0 = x0
          · have e1 : uRow xs j (m + 1) = R := by rw [HROW.out, if_pos he]; rfl
            have E1 : Hid _ := e1
            have q1 : (z0 == x0) = true := beq_iff_eq.2 he
            clear e1 he
            go_wp2_with fail
            go_quiet (fail)
            go_wp2
            go_roundg (j - (m + 1))
            case measure => omega
            case rel => exact ⟨m + 1, _, by go_num, by rw [E1.out], by omega, by first | rfl | rw [World.drewN_drewN]⟩
          · have e1 : uRow xs j (m + 1) = R + 1 := by rw [HROW.out, if_neg he]
            have E1 : Hid _ := e1
            have q1 : (z0 == x0) = false := beq_eq_false_iff_ne.2 he
            clear e1 he
            go_wp2_with fail
            go_quiet (fail)
            go_wp2
            go_roundg (j - (m + 1))
            case measure => omega
            case rel => exact ⟨m + 1, _, by go_num, by rw [E1.out]; go_num, by omega, by first | rfl | rw [World.drewN_drewN]⟩
        · have hmz : ¬ (m : Int) < (j : Int) := by omega
          obtain rfl : m = j := by omega
          have e1 : uSum xs N (r + 1) = S + R := by rw [uSum, HS.out, show N - 1 - r = m by omega, hR]
          have E1 : Hid _ := e1
          clear e1 hR hrow
          go_wp2
          go_roundg m
          case measure => omega
          case rel => exact ⟨m, r + 1, by first | rfl | go_num, by rw [E1.out]; go_num, by omega, Nat.le_refl _, by rw [HRT.out]; exact hA'.drewN q, below_drewN hbA q⟩
    · obtain rfl : j1 = 0 := by omega
      obtain rfl : r = N := by omega
      have er : xs.toList.reverse.take r = xs.toList.reverse := List.take_of_length_le (by simp [HN.out])
      rw [er] at HA
      have hw : wrong xs.toList.reverse.toArray = 0 := by rw [wrong_perm (List.reverse_perm xs.toList).symm]; exact H0.out
      have c6 := inversions_any u11 _ wr HA.sl (by simp [HN.out]; omega)
      rw [hw, inv_list hw, errV_zero] at c6
      have hsum : I + invL xs.toList.reverse = S := by rw [HREV.out, ← HU.out, hS]
      rw [hS] at hur ⊢
      obtain ⟨M, hM⟩ : ∃ M, invL xs.toList.reverse = M := ⟨_, rfl⟩
      rw [hM] at c6 hsum
      have hMS : M ≤ S := by omega
      have qS : ((I : Int) + (M : Int) == (S : Int)) = true := beq_iff_eq.2 (by omega)
      clear hsum hM hS er hw HA
      go_wp2_with fail
      refine c6.mono ?_
      rintro e w6 ⟨rfl, hb6'⟩
      have hb6 : Below w4.heap.size w4 w6 := hbr.trans (hb6'.mono hbr.size)
      clear c6 hb6' hbr
      by_cases hi1 : iv < 1
      · go_wp2
        go_ret
        exact ⟨rfl, hb4.trans (hb6.mono hb4.size)⟩
      by_cases hi2 : (r : Int) ≤ iv
      · go_wp2
        go_ret
        exact ⟨rfl, hb4.trans (hb6.mono hb4.size)⟩
      obtain ⟨ip, rfl⟩ : ∃ ip : Nat, iv = (ip : Int) + 1 := ⟨(iv - 1).toNat, by omega⟩
      have hip : ip + 1 < r := by omega
      obtain ⟨i0, hi, hz0, hz1, hz2⟩ := info_parts info_item'
      have HLL : Hid (xs.toList.length = r) := by show _ = _; simp [HN.out]
      have HLEN : Hid ((flatL xs.toList).length = r * 2) := by show _ = _; rw [flatL_len, HLL.out]
      have HNEWS : Hid (∀ j u, (flatL xs.toList)[j]? = some u → w6.cell? ((⟨blk, off, none⟩ : Addr).add j) = some u) := RdAt.flatL (RdAt.below HX4.out hb6 HX4.out.1)
      obtain ⟨x0, x1, hx⟩ : ∃ x y, xs[ip]! = (x, y) := ⟨_, _, rfl⟩
      obtain ⟨y0, y1, hy⟩ : ∃ x y, xs[ip + 1]! = (x, y) := ⟨_, _, rfl⟩
      have HXX : Hid (xs[ip]! = (x0, x1)) := hx
      have HYY : Hid (xs[ip + 1]! = (y0, y1)) := hy
      clear hx hy
      have g1 : (ip : Int) + 1 < (r : Int) := by omega
      have g2 : (ip : Int) < (r : Int) := by omega
      have g3 : (0 : Int) ≤ (ip : Int) + 1 := by omega
      have g4 : ((ip : Int) + 1).toNat = ip + 1 := by omega
      go_wp2_with (first | (at_builtin; refine wpList_append_own _ rfl (.tmp 108) (.tmp 109) 26 rfl w4.heap.size 36 i0 (.agg #[.int .i64 0, .int .i64 0]) 2 16 Try.underlying26 hi hz0 hz1 hz2 rfl (by decide) (.slice none 0 0) 0 [] rfl (World.ownsRow_nil _ _ _ _) ⟨blk, off, none⟩ r cap (flatL xs.toList) rfl HLEN.out HNEWS.out (flatL_one _) (by unfold maxLen; omega) (by omega) hb6.size ?_; intro vs ws hs hgs _; obtain ⟨g, cp, u2, v2, u3, v3, hvs, hg4, hown, hbs, cx0, cx1, cy0, cy1, o1, o2, o3, o4, o5, o6, o7, o8, hne⟩ := swaps_facts hb6 HX4.out HN.out HXX.out HYY.out hip hs hgs; rw [hvs]; clear hs hgs hvs))
      have HO2 := swapped_own HLL.out hown HXX.out HYY.out
      have hbz := (((hbs.setCell (p := ⟨g, (ip + 1) * 2, none⟩) hg4 (.int .i64 x0)).setCell (p := ⟨g, (ip + 1) * 2 + 1, none⟩) hg4 (.int .i64 x1)).setCell (p := ⟨g, ip * 2, none⟩) hg4 (.int .i64 y0)).setCell (p := ⟨g, ip * 2 + 1, none⟩) hg4 (.int .i64 y1)
      clear o1 o2 o3 o4 o5 o6 o7 o8 cx0 cx1 cy0 cy1 hown hbs HLEN HNEWS
      generalize (((ws.setCell ⟨g, (ip + 1) * 2, none⟩ (.int .i64 x0)).setCell ⟨g, (ip + 1) * 2 + 1, none⟩ (.int .i64 x1)).setCell ⟨g, ip * 2, none⟩ (.int .i64 y0)).setCell ⟨g, ip * 2 + 1, none⟩ (.int .i64 y1) = wz at HO2 hbz ⊢
      have hipx : ip + 1 < xs.size := by rw [HN.out]; exact hip
      have hw2 : wrong (swapL xs ip).toArray = 0 := by rw [wrong_perm (swapL_perm xs ip hipx)]; exact H0.out
      have c7 := inversions_any _ _ wz HO2.sl (by unfold swapL; simp [HN.out]; omega)
      rw [hw2, inv_list hw2, errV_zero] at c7
      have hk := swapL_inv xs ip hipx
      rw [HXX.out, HYY.out, HI.out] at hk
      simp only at hk
      obtain ⟨K, hK⟩ : ∃ K, invL (swapL xs ip) = K := ⟨_, rfl⟩
      rw [hK] at c7 hk
      have HK : Hid ((K : Int) = I + (if x0 < y0 then 1 else 0) - (if y0 < x0 then 1 else 0)) := hk
      clear hk hK hw2 hipx HO2
      refine c7.mono ?_
      rintro e w7 ⟨rfl, hb7'⟩
      have hb7 : Below w4.heap.size w4 w7 := hbz.trans (hb7'.mono hbz.size)
      clear c7 hb7' hbz
      obtain ⟨cx0, cx1⟩ := (RdAt.below HX4.out hb7 HX4.out.1).2 ip (by rw [HN.out]; omega)
      obtain ⟨cy0, cy1⟩ := (RdAt.below HX4.out hb7 HX4.out.1).2 (ip + 1) (by rw [HN.out]; exact hip)
      rw [HXX.out] at cx0 cx1
      rw [HYY.out] at cy0 cy1
      have hwp : IntKind.i64.wrap (ip : Int) = (ip : Int) := by rw [IntKind.wrap_i64]; omega
      by_cases hlt : x0 < y0
      · have hgt : ¬ y0 < x0 := by omega
        have d1 : decide (x0 < y0) = true := decide_eq_true hlt
        have d2 : decide (y0 < x0) = false := decide_eq_false hgt
        have qk : ((K : Int) == (I : Int) + 1) = true := beq_iff_eq.2 (by rw [HK.out, if_pos hlt, if_neg hgt]; omega)
        go_wp2_with fail
        go_quiet (fail)
        go_wp2_with fail
        go_quiet (fail)
        go_wp2
        go_ret
        exact ⟨rfl, below_drewN (hb4.trans (hb7.mono hb4.size)) _⟩
      by_cases hgt : y0 < x0
      · have d1 : decide (x0 < y0) = false := decide_eq_false hlt
        have d2 : decide (y0 < x0) = true := decide_eq_true hgt
        have qk : ((K : Int) == (I : Int) - 1) = true := beq_iff_eq.2 (by rw [HK.out, if_neg hlt, if_pos hgt]; omega)
        go_wp2_with fail
        go_quiet (fail)
        go_wp2_with fail
        go_quiet (fail)
        go_wp2
        go_ret
        exact ⟨rfl, below_drewN (hb4.trans (hb7.mono hb4.size)) _⟩
      · have d1 : decide (x0 < y0) = false := decide_eq_false hlt
        have d2 : decide (y0 < x0) = false := decide_eq_false hgt
        have qk : ((K : Int) == (I : Int)) = true := beq_iff_eq.2 (by rw [HK.out, if_neg hlt, if_neg hgt]; omega)
        go_wp2_with fail
        go_quiet (fail)
        go_wp2_with fail
        go_quiet (fail)
        go_wp2
        go_ret
        exact ⟨rfl, below_drewN (hb4.trans (hb7.mono hb4.size)) _⟩

theorem orderSwaps_any (v : Value) (iv : Int) (xs : Array (Int × Int)) (w : World) (h : Sl w v xs) (hbig : xs.size ≤ 9223372036854775807) :
    Calls Try.prog 6 #[v, .int .i64 iv] w fun e w' => e = .returned (.bool true) ∧ Below w.heap.size w w' := by
  obtain ⟨p, cap, rfl, hcap, hp⟩ := id h
  by_cases h0 : wrong xs = 0
  · by_cases hz : xs.size = 0
    · rw [hz]; exact orderSwaps_none p cap iv w
    · rcases hp with hp | ⟨blk, off, rfl, hr⟩
      · exact absurd hp hz
      · exact orderSwaps_some blk off xs.size cap iv xs w hr rfl (by omega) hcap h0
  · exact orderSwaps_bad p cap iv xs w h hbig h0
#print axioms orderSwaps_any
end Go.Proofs.Ytaplomajcdoekaa
