/-
  lean.itemsOf, lean.read, lean.Check and lean.Spine: what is wrong with a list, and the tree of it.
-/
import Derived.Test.YtoaabpoicacogaaDoorLRead
import Derived.Test.YtoaabpoicacogaaDoorLaid
import Derived.Test.YtoaabpoicacogaaDoorLEnc
namespace Go.Proofs.YtoaabpoicacogaaDoor
open Go.RowKit Go.Sort Go.Proofs

/-- make([]api.Item, n): noughts. -/
theorem made_items {w : World} {base n g : Nat} (h : w.ownsRow base 24 2 (.slice (some ⟨g, 0, none⟩) n n) n (madeCells (Value.agg #[.int .i64 0, .int .i64 0]).cells (n * 2)).toList) : WrAt w g 0 (Array.replicate n (0, 0)) := by
  obtain ⟨hg, _, hfr⟩ := owned_cells h
  have hm := made_cell h
  refine ⟨⟨hg, fun i hi => ?_⟩, fun j hj => by rw [Nat.zero_add]; exact hfr j (by simpa using hj)⟩
  have hi' : i < n := by simpa using hi
  rw [getElem!_pos _ i hi]
  simp only [Array.getElem_replicate, Nat.zero_add]
  exact ⟨hm (i * 2) (by omega), hm (i * 2 + 1) (by omega)⟩
/-- The items of nodes. -/
def itemsN (xs : List Nd) : Array (Int × Int) := (xs.map fun x => (x.1, x.2.1)).toArray
theorem itemsN_size (xs : List Nd) : (itemsN xs).size = xs.length := by simp [itemsN]
theorem itemsN_get {xs : List Nd} {i : Nat} {k d l r : Int} (h : xs[i]? = some (k, d, l, r)) : (itemsN xs)[i]! = (k, d) := by
  obtain ⟨hi, e⟩ := List.getElem?_eq_some_iff.1 h
  rw [getElem!_pos _ i (by rw [itemsN_size]; exact hi)]
  simp [itemsN, e]
theorem itemsN_out (xs : List Nd) : anyOut (itemsN xs) = xs.any LT.outN4 := by
  unfold anyOut itemsN
  simp only [List.any_map]
  rfl
set_option maxHeartbeats 4000000 in
set_option maxRecDepth 4000 in
theorem itemsOf_any (p : Option Addr) (n cap : Nat) (xs : List Nd) (w : World) (HN : Hid (xs.length = n)) (hn : n ≤ 60) (HS : Hid (SlE EN w (.slice p n cap) xs)) :
    Calls Tryd.prog 41 #[.slice p n cap] w fun e w' => ∃ g, e = .returned (.slice (some ⟨g, 0, none⟩) n n) ∧ RdAt w' g 0 (itemsN xs) ∧ Below w.heap.size w w' := by
  obtain ⟨i0, hi, hz0, hz1, hz2⟩ := info_parts info_item
  have hmax : n ≤ maxLen := by unfold maxLen; omega
  go_enter Tryd.func41, Tryd.ntmps41
  go_wp2_with (first | (at_make; refine wpList_make_full _ rfl (.tmp 7) (.tmp 7) 44 rfl w.heap.size 24 i0 (.agg #[.int .i64 0, .int .i64 0]) 2 Tryd.underlying44 hi hz0 hz1 .i64 .i64 _ _ n rfl rfl rfl rfl (by rw [hz2]; omega) hmax (Nat.le_refl _) ?_; intro w2 hown hgr))
  have hb2 : Below w.heap.size w w2 := (Below.refl _ _).grown hgr (Nat.le_refl _) (fun _ e => by cases e)
  have HW2 : Hid (WrAt w2 w.heap.size 0 (Array.replicate n (0, 0))) := made_items hown
  clear hown hgr hi hz0 hz1 hz2
  go_loopg [11] n (fun gg vi wr => ∃ i : Nat, vi = .int .i64 i ∧ i ≤ n ∧ n - i ≤ gg ∧ ∃ d : Array (Int × Int), Hid (d.size = n) ∧ Hid (WrAt wr w.heap.size 0 d) ∧ Hid (∀ j, j < i → d[j]! = (itemsN xs)[j]!) ∧ Hid (Below w.heap.size w wr))
  case atStart => exact ⟨0, rfl, Nat.zero_le _, by omega, _, (show _ = _ by simp), HW2, (show ∀ j, _ from fun j hj => absurd hj (Nat.not_lt_zero _)), hb2⟩
  case round =>
    obtain ⟨i, rfl, hin, hg, d, HD, HW, HE, HB⟩ := hrel
    by_cases hlt : i < n
    · have hlz : (i : Int) < (n : Int) := by omega
      obtain ⟨blk, off, rfl, _, _, hr⟩ := HS.out.some (by omega)
      obtain ⟨⟨k, e, l, r⟩, hx⟩ : ∃ x, xs[i]? = some x := ⟨xs[i]'(by rw [HN.out]; omega), by simp⟩
      obtain ⟨c0, c1, c2, c3⟩ := (hr.below HB.out hr.1).node hx
      have HX : Hid (xs[i]? = some (k, e, l, r)) := hx
      have hlb : blk < wr.heap.size := Nat.lt_of_lt_of_le hr.1 HB.out.size
      have hB : w.heap.size ≤ wr.heap.size := HB.out.size
      have cI := fun w1 => itemOf_any k e l r w1
      clear hx hr
      go_wp2_with fail
      refine (cI _).mono ?_
      rintro ee w3 ⟨rfl, hb3'⟩
      have hb3 : Below wr.heap.size wr w3 := ((Below.refl _ _).alloc (Nat.le_refl _) _).trans (hb3'.mono (by simp))
      have HB3 : Hid (Below w.heap.size w w3) := HB.out.trans (hb3.mono hB)
      have HW3 : Hid (WrAt w3 w.heap.size 0 d) := HW.out.below hb3 HW.out.lt
      obtain ⟨d0, d1, hdi⟩ : ∃ x y, d[i]! = (x, y) := ⟨_, _, rfl⟩
      obtain ⟨e0, e1, f0, f1⟩ := HW3.out.cell (i := i) (by rw [HD.out]; exact hlt) hdi
      simp only [Nat.zero_add] at e0 e1 f0 f1
      have hw4 := HW3.out.set (i := i) (by rw [HD.out]; exact hlt) (k, e)
      simp only [Nat.zero_add] at hw4
      have HW4 : Hid (WrAt ((w3.setCell ⟨w.heap.size, i * 2, none⟩ (.int .i64 k)).setCell ⟨w.heap.size, i * 2 + 1, none⟩ (.int .i64 e)) w.heap.size 0 (d.setIfInBounds i (k, e))) := hw4
      have HB4 : Hid (Below w.heap.size w ((w3.setCell ⟨w.heap.size, i * 2, none⟩ (.int .i64 k)).setCell ⟨w.heap.size, i * 2 + 1, none⟩ (.int .i64 e))) := below_gb HB3.out (gb_set (World.grownBy.refl _ _) _ _ _ _) (Nat.le_refl _) HB3.out.size
      have HE4 : Hid (∀ j, j < i + 1 → (d.setIfInBounds i (k, e))[j]! = (itemsN xs)[j]!) := fun j hj => by
        have hj' : j < d.size := by rw [HD.out]; omega
        rw [getElem!_pos _ j (by simpa using hj'), Array.getElem_setIfInBounds]
        by_cases c : i = j
        · subst c; rw [if_pos rfl, itemsN_get HX.out]
        · rw [if_neg c, ← HE.out j (by omega), getElem!_pos d j hj']
      clear hw4 hb3' hb3 hdi cI
      go_wp2
      go_roundg (n - (i + 1))
      case measure => omega
      case rel => exact ⟨i + 1, by go_num, by omega, Nat.le_refl _, _, (show _ = _ by simpa using HD.out), HW4, HE4, HB4⟩
    · have hlz : ¬ (i : Int) < (n : Int) := by omega
      have HE' : Hid (d = itemsN xs) := by
        show _ = _
        refine Array.ext (by rw [HD.out, itemsN_size, HN.out]) fun j h1 h2 => ?_
        have := HE.out j (by have := HD.out; omega)
        rw [getElem!_pos d j h1, getElem!_pos _ j h2] at this
        exact this
      go_wp2
      go_ret
      exact ⟨_, rfl, by rw [← HE'.out]; exact HW.out.rd, HB.out⟩

theorem items_enc : ∀ (t : LT) (o : Nat) (x : Int × Int), x ∈ t.items → ∃ y ∈ LT.enc o t, y.1 = x.1 ∧ y.2.1 = x.2
  | ⟨none⟩, _, x, h => by simp [LT.items] at h
  | ⟨some (k, i, l, r)⟩, o, x, h => by
    simp only [LT.items, List.mem_cons, List.mem_append] at h
    rcases h with rfl | h | h
    · exact ⟨_, List.mem_cons_self, rfl, rfl⟩
    · obtain ⟨y, hy, e⟩ := items_enc l (o + 1) x h
      exact ⟨y, List.mem_cons_of_mem _ (List.mem_append_left _ hy), e⟩
    · obtain ⟨y, hy, e⟩ := items_enc r (o + 1 + l.size) x h
      exact ⟨y, List.mem_cons_of_mem _ (List.mem_append_right _ hy), e⟩
theorem inR_of {t : LT} {o : Nat} (h : (LT.enc o t).any LT.outN4 = false) : InR t := fun x hx => by
  obtain ⟨y, hy, e1, e2⟩ := items_enc t o x hx
  rw [List.any_eq_false] at h
  have := h y hy
  unfold LT.outN4 at this
  simp only [decide_eq_true_eq] at this
  omega
/-- A list that is right is that of a tree. -/
structure IsL (xs : List Nd) (t : LT) : Prop where
  enc : xs = LT.enc 0 t
  leans : LT.Leans t
  inR : InR t
  le : t.size ≤ 60
theorem IsL.len {xs : List Nd} {t : LT} (h : IsL xs t) : xs.length = t.size := by rw [h.enc, LT.enc_length]
/-- What read tells. -/
def ReadsL (xs : List Nd) (e : Ending) (w' : World) : Prop :=
  (∃ q t, e = .returned (.tuple #[.pointer q, .nilIface]) ∧ TrAt w' t (.pointer q) ∧ IsL xs t) ∨
    (∃ k : Nat, k ≠ 0 ∧ LT.Says xs k 0 ∧ e = .returned (.tuple #[.pointer none, .iface 56 (.int .i64 k)]))
theorem wrong_says {xs : List Nd} (h60 : xs.length ≤ 60) (h : xs.any LT.outN4 = true) : wrong (itemsN xs) = 1 := by
  unfold wrong; rw [if_neg (by rw [itemsN_size]; omega), itemsN_out, h]; rfl
theorem wrong_not {xs : List Nd} (h60 : xs.length ≤ 60) (h : xs.any LT.outN4 = false) : wrong (itemsN xs) = 0 := by
  unfold wrong; rw [if_neg (by rw [itemsN_size]; omega), itemsN_out, h]; rfl

set_option maxHeartbeats 2000000 in
theorem read_full (p : Option Addr) (n cap : Nat) (w : World) (h : 60 < n) (hbig : n ≤ 9223372036854775807) :
    Calls Tryd.prog 28 #[.slice p n cap] w fun e w' => e = .returned (.tuple #[.pointer none, .iface 56 (.int .i64 4)]) ∧ Below w.heap.size w w' := by
  have hz : (60 : Int) < (n : Int) := by omega
  go_enter Tryd.func28, Tryd.ntmps28
  go_wp2
  go_ret2
  exact ⟨rfl, Below.refl _ _⟩
set_option maxHeartbeats 2000000 in
theorem read_range (p : Option Addr) (n cap : Nat) (w : World) (h : n ≤ 60) (IT : Array (Int × Int))
    (C1 : Hid (Calls Tryd.prog 41 #[.slice p n cap] w fun e w' => ∃ g, e = .returned (.slice (some ⟨g, 0, none⟩) n n) ∧ RdAt w' g 0 IT ∧ Below w.heap.size w w'))
    (C2 : Hid (∀ w1 g, RdAt w1 g 0 IT → Calls Tryd.prog 37 #[.slice (some ⟨g, 0, none⟩) n n] w1 fun e w' => e = .returned (.iface 56 (.int .i64 (1 : Nat))) ∧ Below w1.heap.size w1 w')) :
    Calls Tryd.prog 28 #[.slice p n cap] w fun e w' => e = .returned (.tuple #[.pointer none, .iface 56 (.int .i64 1)]) ∧ Below w.heap.size w w' := by
  have hz : ¬ (60 : Int) < (n : Int) := by omega
  go_enter Tryd.func28, Tryd.ntmps28
  go_wp2_with fail
  refine C1.out.mono ?_
  rintro e w1 ⟨g, rfl, hr, hb1⟩
  go_wp2_with fail
  refine (C2.out w1 g hr).mono ?_
  rintro e w2 ⟨rfl, hb2⟩
  clear hr
  go_wp2
  go_ret2
  exact ⟨rfl, hb1.trans (hb2.mono hb1.size)⟩
set_option maxHeartbeats 2000000 in
theorem read_none (p : Option Addr) (cap : Nat) (w : World) (IT : Array (Int × Int))
    (C1 : Hid (Calls Tryd.prog 41 #[.slice p 0 cap] w fun e w' => ∃ g, e = .returned (.slice (some ⟨g, 0, none⟩) 0 0) ∧ RdAt w' g 0 IT ∧ Below w.heap.size w w'))
    (C2 : Hid (∀ w1 g, RdAt w1 g 0 IT → Calls Tryd.prog 37 #[.slice (some ⟨g, 0, none⟩) 0 0] w1 fun e w' => e = .returned .nilIface ∧ Below w1.heap.size w1 w')) :
    Calls Tryd.prog 28 #[.slice p 0 cap] w fun e w' => e = .returned (.tuple #[.pointer none, .nilIface]) ∧ Below w.heap.size w w' := by
  go_enter Tryd.func28, Tryd.ntmps28
  go_wp2_with fail
  refine C1.out.mono ?_
  rintro e w1 ⟨g, rfl, hr, hb1⟩
  go_wp2_with fail
  refine (C2.out w1 g hr).mono ?_
  rintro e w2 ⟨rfl, hb2⟩
  clear hr
  go_wp2
  go_ret2
  exact ⟨rfl, hb1.trans (hb2.mono hb1.size)⟩
set_option maxHeartbeats 4000000 in
theorem read_some (blk off n cap : Nat) (xs : List Nd) (w : World) (h0 : 0 < n) (h : n ≤ 60) (HN : Hid (xs.length = n)) (HO : Hid (xs.any LT.outN4 = false)) (IT : Array (Int × Int))
    (C1 : Hid (Calls Tryd.prog 41 #[.slice (some ⟨blk, off, none⟩) n cap] w fun e w' => ∃ g, e = .returned (.slice (some ⟨g, 0, none⟩) n n) ∧ RdAt w' g 0 IT ∧ Below w.heap.size w w'))
    (C2 : Hid (∀ w1 g, RdAt w1 g 0 IT → Calls Tryd.prog 37 #[.slice (some ⟨g, 0, none⟩) n n] w1 fun e w' => e = .returned .nilIface ∧ Below w1.heap.size w1 w'))
    (C3 : Hid (∀ w1, Below w.heap.size w w1 → Calls Tryd.prog 42 #[.slice (some ⟨blk, off, none⟩) n cap, .int .i64 0] w1 fun e w' => ReadsN xs 0 e w' ∧ Below w1.heap.size w1 w')) :
    Calls Tryd.prog 28 #[.slice (some ⟨blk, off, none⟩) n cap] w fun e w' => ReadsL xs e w' ∧ Below w.heap.size w w' := by
  have hz : ¬ (60 : Int) < (n : Int) := by omega
  have hq : ((n : Int) == 0) = false := beq_eq_false_iff_ne.2 (by omega)
  go_enter Tryd.func28, Tryd.ntmps28
  go_wp2_with fail
  refine C1.out.mono ?_
  rintro e w1 ⟨g, rfl, hr, hb1⟩
  go_wp2_with fail
  refine (C2.out w1 g hr).mono ?_
  rintro e w2 ⟨rfl, hb2'⟩
  have hb2 := hb1.trans (hb2'.mono hb1.size)
  clear hr hb2' hb1
  go_wp2_with fail
  refine (C3.out w2 hb2).mono ?_
  rintro e w3 ⟨⟨q, s, rfl, ht, hs⟩ | ⟨rfl, hs⟩, hb3'⟩
  · have hb3 := hb2.trans (hb3'.mono hb2.size)
    have HT : Hid (TrAt w3 s (.pointer q)) := ht
    have HS : Hid (LT.SubAt xs 0 s) := hs
    clear ht hs hb3'
    rw [Nat.zero_add]
    obtain ⟨m, hm⟩ : ∃ m, s.size = m := ⟨_, rfl⟩
    rw [hm]
    have HM : Hid (s.size = m) := hm
    clear hm
    by_cases hmn : m = n
    · subst hmn
      go_wp2
      go_ret2
      have e0 : xs = LT.enc 0 s := by
        have := HS.out.rest
        rw [Nat.zero_add, HM.out, ← HN.out, List.drop_length] at this
        simpa using this
      exact ⟨Or.inl ⟨q, s, rfl, HT.out, e0, HS.out.leans, inR_of (o := 0) (by rw [← e0]; exact HO.out), by rw [HM.out]; exact h⟩, hb3⟩
    · have hmz : ((m : Int) != (n : Int)) = true := by simpa using fun e => hmn (by omega)
      have hmq : ¬ (m : Int) = (n : Int) := by omega
      go_wp2
      go_ret2
      exact ⟨Or.inr ⟨3, by decide, .shape (by rw [HN.out]; exact h) HO.out (LT.not_good_size HS.out (by rw [HM.out, HN.out]; exact hmn)), rfl⟩, hb3⟩
  · have hb3 := hb2.trans (hb3'.mono hb2.size)
    have HS : Hid (∀ s, ¬ LT.SubAt xs 0 s) := hs
    clear hs
    go_wp2
    go_ret2
    refine ⟨Or.inr ⟨3, by decide, .shape (by rw [HN.out]; exact h) HO.out (fun hg => ?_), rfl⟩, hb3⟩
    obtain ⟨s, hs⟩ := hg.sub (j := 0) (by rw [HN.out]; exact h0)
    exact HS.out s hs

theorem read_any (v : Value) (xs : List Nd) (w : World) (h : SlE EN w v xs) (hbig : xs.length ≤ 9223372036854775807) :
    Calls Tryd.prog 28 #[v] w fun e w' => ReadsL xs e w' ∧ Below w.heap.size w w' := by
  obtain ⟨p, cap, rfl, hcap, hp⟩ := id h
  by_cases h60 : 60 < xs.length
  · exact (read_full p xs.length cap w h60 hbig).mono fun e w' ⟨a, b⟩ => ⟨Or.inr ⟨4, by decide, .full h60, a⟩, b⟩
  · have c1 := itemsOf_any p xs.length cap xs w rfl (by omega) h
    have hsl : ∀ w1 g, RdAt w1 g 0 (itemsN xs) → Sl w1 (.slice (some ⟨g, 0, none⟩) xs.length xs.length) (itemsN xs) := fun w1 g hr => by
      have := Sl.of_rd (cap := xs.length) hr (by rw [itemsN_size]; exact Nat.le_refl _)
      rw [itemsN_size] at this; exact this
    have c2 := fun w1 g (hr : RdAt w1 g 0 (itemsN xs)) => check_any _ (itemsN xs) w1 (hsl w1 g hr) (by rw [itemsN_size]; omega)
    cases ho : xs.any LT.outN4 with
    | true =>
      rw [wrong_says (by omega) ho, errV_pos (by decide)] at c2
      exact (read_range p xs.length cap w (by omega) _ c1 c2).mono fun e w' ⟨a, b⟩ => ⟨Or.inr ⟨1, by decide, .range (by omega) ho, a⟩, b⟩
    | false =>
      rw [wrong_not (by omega) ho, errV_zero] at c2
      rcases hp with rfl | ⟨blk, off, rfl, hr⟩
      · exact (read_none p cap w _ c1 c2).mono fun e w' ⟨a, b⟩ => ⟨Or.inl ⟨none, .nil, a, rfl, rfl, trivial, fun x hx => by simp [LT.items] at hx, by simp [LT.size]⟩, b⟩
      · rcases Nat.eq_zero_or_pos xs.length with h0 | h0
        · have e0 := List.eq_nil_of_length_eq_zero h0
          subst e0
          exact (read_none _ cap w _ c1 c2).mono fun e w' ⟨a, b⟩ => ⟨Or.inl ⟨none, .nil, a, rfl, rfl, trivial, fun x hx => by simp [LT.items] at hx, by simp [LT.size]⟩, b⟩
        · exact read_some blk off xs.length cap xs w h0 (by omega) rfl ho _ c1 c2 fun w1 hb => readNode_any blk off xs.length cap xs rfl (by omega) xs.length 0 w1 (by omega) h0 (hr.below hb hr.1)
theorem ReadsL.says {xs : List Nd} {t : LT} (h : IsL xs t) : LT.Says xs 0 t.spine := .right t (by rw [h.len]; exact h.le) (by rw [h.enc]; exact enc_right h.inR 0) h.enc h.leans
#print axioms read_any
end Go.Proofs.YtoaabpoicacogaaDoor
