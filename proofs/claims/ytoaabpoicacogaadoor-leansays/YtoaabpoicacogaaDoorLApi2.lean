/-
  lean.Push and lean.Pop.
-/
import Derived.Test.YtoaabpoicacogaaDoorLApi
namespace Go.Proofs.YtoaabpoicacogaaDoor
open Go.RowKit Go.Sort Go.Proofs

/-- The heap of an item alone. -/
abbrev aloneN (x0 x1 : Int) : List Nd := [(x0, x1, -1, -1)]
theorem alone_sl (w : World) (x0 x1 : Int) (g : Nat) (hg : g = w.heap.size) : SlE EN (w.alloc (.cells #[.int .i64 x0, .int .i64 x1, .int .i64 (-1), .int .i64 (-1)] 38)) (.slice (some ⟨g, 0, none⟩) 1 1) (aloneN x0 x1) := by
  subst hg
  refine SlE.of_rd ⟨by simp, fun j v hv => ?_⟩ rfl (Nat.le_refl _)
  rw [El.flat_one] at hv
  have := new_node w _ rfl x0 x1 (-1) (-1) j v hv
  rw [show ((⟨w.heap.size, 0, none⟩ : Addr).add j) = ⟨w.heap.size, 0 + j, none⟩ by unfold Addr.add; split <;> simp_all] at this
  exact this
theorem alone_isL {x0 x1 : Int} (h : outB (x0, x1) = false) : IsL (aloneN x0 x1) (.node x0 x1 .nil .nil) := by
  have h' := of_decide_eq_false h
  simp only at h'
  refine ⟨by simp [LT.enc, LT.place], ⟨trivial, trivial, Nat.le_refl _, trivial, trivial⟩, fun x hx => ?_, by simp [LT.size]⟩
  simp only [LT.items, List.append_nil, List.mem_singleton] at hx
  subst hx
  simp only
  omega
theorem alone_says {x0 x1 : Int} (h : outB (x0, x1) = true) : LT.Says (aloneN x0 x1) 1 0 := .range (by simp) (by simpa [LT.outN4, outB] using h)

theorem alone_below (w : World) (x0 x1 : Int) : Below w.heap.size w ((w.alloc (.cells #[.int .i64 x0, .int .i64 x1] 24)).alloc (.cells #[.int .i64 x0, .int .i64 x1, .int .i64 (-1), .int .i64 (-1)] 38)) := ((Below.refl _ _).alloc (Nat.le_refl _) _).alloc (by simp) _
set_option maxHeartbeats 2000000 in
theorem leanPush_A (p : Option Addr) (n cap k : Nat) (x0 x1 : Int) (w : World)
    (C : Hid (Calls Tryd.prog 13 #[.slice p n cap, .slice (some ⟨w.heap.size + 1, 0, none⟩) 1 1] ((w.alloc (.cells #[.int .i64 x0, .int .i64 x1] 24)).alloc (.cells #[.int .i64 x0, .int .i64 x1, .int .i64 (-1), .int .i64 (-1)] 38)) fun e w' => e = .returned (.tuple #[.slice none 0 0, .iface 56 (.int .i64 k)]) ∧ Below w.heap.size w w')) :
    Calls Tryd.prog 15 #[.slice p n cap, .agg #[.int .i64 x0, .int .i64 x1]] w fun e w' => e = .returned (.tuple #[.slice none 0 0, .iface 56 (.int .i64 k)]) ∧ Below w.heap.size w w' := by
  go_enter Tryd.func15, Tryd.ntmps15
  go_wp2_with fail
  refine C.out.mono ?_
  rintro e w2 ⟨rfl, hb⟩
  go_wp2
  go_ret2
  exact ⟨rfl, hb⟩
set_option maxHeartbeats 2000000 in
theorem leanPush_B (p : Option Addr) (n cap : Nat) (x0 x1 : Int) (w : World) (ys : List Nd)
    (C : Hid (Calls Tryd.prog 13 #[.slice p n cap, .slice (some ⟨w.heap.size + 1, 0, none⟩) 1 1] ((w.alloc (.cells #[.int .i64 x0, .int .i64 x1] 24)).alloc (.cells #[.int .i64 x0, .int .i64 x1, .int .i64 (-1), .int .i64 (-1)] 38)) fun e w' => ∃ v', e = .returned (.tuple #[v', .nilIface]) ∧ OwnE EN w' w.heap.size v' ys ∧ Below w.heap.size w w')) :
    Calls Tryd.prog 15 #[.slice p n cap, .agg #[.int .i64 x0, .int .i64 x1]] w fun e w' => ∃ v', e = .returned (.tuple #[v', .nilIface]) ∧ OwnE EN w' w.heap.size v' ys ∧ Below w.heap.size w w' := by
  go_enter Tryd.func15, Tryd.ntmps15
  go_wp2_with fail
  refine C.out.mono ?_
  rintro e w2 ⟨v', rfl, ho, hb⟩
  have HO : Hid (OwnE EN w2 w.heap.size v' ys) := ho
  clear ho
  go_wp2
  go_ret2
  exact ⟨_, rfl, HO.out, hb⟩
theorem leanPush_bad (v : Value) (x0 x1 : Int) (xs : List Nd) (k : Nat) (w : World) (hx : SlE EN w v xs) (hbig : xs.length ≤ 9223372036854775807) (hk : MeldE xs (aloneN x0 x1) k) :
    Calls Tryd.prog 15 #[v, .agg #[.int .i64 x0, .int .i64 x1]] w fun e w' => e = .returned (.tuple #[.slice none 0 0, .iface 56 (.int .i64 k)]) ∧ Below w.heap.size w w' := by
  obtain ⟨p, cap, rfl, _⟩ := id hx
  refine leanPush_A p xs.length cap k x0 x1 w ?_
  have hb := alone_below w x0 x1
  exact (leanMeld_bad _ _ xs (aloneN x0 x1) k _ (hx.below hb) (alone_sl (w.alloc (.cells #[.int .i64 x0, .int .i64 x1] 24)) x0 x1 _ (by simp)) hbig (by simp) hk).mono fun e w' ⟨a, b⟩ => ⟨a, hb.trans (b.mono hb.size)⟩
theorem leanPush_good (v : Value) (x0 x1 : Int) (xs : List Nd) (s : LT) (w : World) (hx : SlE EN w v xs) (hs : IsL xs s) (ho : outB (x0, x1) = false) (h60 : s.size < 60) :
    Calls Tryd.prog 15 #[v, .agg #[.int .i64 x0, .int .i64 x1]] w fun e w' => ∃ v', e = .returned (.tuple #[v', .nilIface]) ∧ OwnE EN w' w.heap.size v' (LT.enc 0 (LT.meld s (.node x0 x1 .nil .nil))) ∧ Below w.heap.size w w' := by
  obtain ⟨p, cap, rfl, _⟩ := id hx
  refine leanPush_B p xs.length cap x0 x1 w _ ?_
  have hb := alone_below w x0 x1
  exact (leanMeld_good _ _ xs (aloneN x0 x1) s _ _ (hx.below hb) (alone_sl (w.alloc (.cells #[.int .i64 x0, .int .i64 x1] 24)) x0 x1 _ (by simp)) hs (alone_isL ho) (by simp [LT.size]; omega)).mono fun e w' ⟨v', a, b, c⟩ => ⟨v', a, b.weak hb.size, hb.trans (c.mono hb.size)⟩

/-- The cell of an item that is told stays as it is. -/
theorem told_cell {w w1 : World} (h : Below (w.alloc (.cells #[.int .i64 0, .int .i64 0] 24)).heap.size (w.alloc (.cells #[.int .i64 0, .int .i64 0] 24)) w1) : w1.cell? ⟨w.heap.size, 0, none⟩ = some (.int .i64 0) ∧ w1.cell? ⟨w.heap.size, 1, none⟩ = some (.int .i64 0) ∧ w1.frozen? ⟨w.heap.size, 0, none⟩ = false ∧ w1.frozen? ⟨w.heap.size, 1, none⟩ = false ∧ w.heap.size < w1.heap.size ∧ Below w.heap.size w w1 ∧ w1.cell? ⟨w.heap.size, 2, none⟩ = none := by
  have hlt : w.heap.size < (w.alloc (.cells #[.int .i64 0, .int .i64 0] 24)).heap.size := by simp
  have hb : Below w.heap.size w (w.alloc (.cells #[.int .i64 0, .int .i64 0] 24)) := (Below.refl _ _).alloc (Nat.le_refl _) _
  refine ⟨(h.cell (p := ⟨w.heap.size, 0, none⟩) hlt).trans (by simp), (h.cell (p := ⟨w.heap.size, 1, none⟩) hlt).trans (by simp), (World.frozen?_of_block (a := ⟨w.heap.size, 0, none⟩) (h.block _ hlt)).trans (by simp), (World.frozen?_of_block (a := ⟨w.heap.size, 1, none⟩) (h.block _ hlt)).trans (by simp), Nat.lt_of_lt_of_le hlt h.size, hb.trans (h.mono hb.size), (h.cell (p := ⟨w.heap.size, 2, none⟩) hlt).trans (by simp)⟩
set_option maxHeartbeats 2000000 in
theorem leanPop_A (p : Option Addr) (n cap k : Nat) (w : World)
    (C : Hid (∀ w1, Below w.heap.size w w1 → Calls Tryd.prog 28 #[.slice p n cap] w1 fun e w' => e = .returned (.tuple #[.pointer none, .iface 56 (.int .i64 k)]) ∧ Below w1.heap.size w1 w')) :
    Calls Tryd.prog 17 #[.slice p n cap] w fun e w' => e = .returned (.tuple #[.agg #[.int .i64 0, .int .i64 0], .slice none 0 0, .iface 56 (.int .i64 k)]) ∧ Below w.heap.size w w' := by
  have c1 := C.out (w.alloc (.cells #[.int .i64 0, .int .i64 0] 24)) ((Below.refl _ _).alloc (Nat.le_refl _) _)
  clear C
  go_enter Tryd.func17, Tryd.ntmps17
  go_wp2_with fail
  refine c1.mono ?_
  rintro e w1 ⟨rfl, hb1'⟩
  obtain ⟨b0, b1, f0, f1, hlt, hb1, _⟩ := told_cell hb1'
  clear hb1' c1
  go_wp2
  refine bodyPost_ret (by simp [results, Tryd.results17, go_sem, b0, b1]; try rfl) rfl ?_
  exact ⟨rfl, (hb1.setCell (p := ⟨w.heap.size, 0, none⟩) (Nat.le_refl _) _).setCell (p := ⟨w.heap.size, 1, none⟩) (Nat.le_refl _) _⟩
set_option maxHeartbeats 2000000 in
theorem leanPop_B (p : Option Addr) (cap : Nat) (w : World)
    (C : Hid (∀ w1, Below w.heap.size w w1 → Calls Tryd.prog 28 #[.slice p 0 cap] w1 fun e w' => ∃ q, e = .returned (.tuple #[.pointer q, .nilIface]) ∧ TrAt w' .nil (.pointer q) ∧ Below w1.heap.size w1 w')) :
    Calls Tryd.prog 17 #[.slice p 0 cap] w fun e w' => e = .returned (.tuple #[.agg #[.int .i64 0, .int .i64 0], .slice none 0 0, .iface 56 (.int .i64 5)]) ∧ Below w.heap.size w w' := by
  have c1 := C.out (w.alloc (.cells #[.int .i64 0, .int .i64 0] 24)) ((Below.refl _ _).alloc (Nat.le_refl _) _)
  clear C
  go_enter Tryd.func17, Tryd.ntmps17
  go_wp2_with fail
  refine c1.mono ?_
  rintro e w1 ⟨q, rfl, ht, hb1'⟩
  obtain rfl : q = none := Value.pointer.inj ht
  obtain ⟨b0, b1, f0, f1, hlt, hb1, _⟩ := told_cell hb1'
  clear hb1' c1 ht
  go_wp2
  refine bodyPost_ret (by simp [results, Tryd.results17, go_sem, b0, b1]; try rfl) rfl ?_
  exact ⟨rfl, (hb1.setCell (p := ⟨w.heap.size, 0, none⟩) (Nat.le_refl _) _).setCell (p := ⟨w.heap.size, 1, none⟩) (Nat.le_refl _) _⟩
set_option maxHeartbeats 4000000 in
set_option maxRecDepth 4000 in
theorem leanPop_C (p : Option Addr) (n cap : Nat) (k i : Int) (l r : LT) (w : World) (hs : l.size + r.size ≤ 1000)
    (C : Hid (∀ w1, Below w.heap.size w w1 → Calls Tryd.prog 28 #[.slice p n cap] w1 fun e w' => ∃ q, e = .returned (.tuple #[.pointer q, .nilIface]) ∧ TrAt w' (.node k i l r) (.pointer q) ∧ Below w1.heap.size w1 w')) :
    Calls Tryd.prog 17 #[.slice p n cap] w fun e w' => ∃ v', e = .returned (.tuple #[.agg #[.int .i64 k, .int .i64 i], v', .nilIface]) ∧ OwnE EN w' w.heap.size v' (LT.enc 0 (LT.meld l r)) ∧ Below w.heap.size w w' := by
  have c1 := C.out (w.alloc (.cells #[.int .i64 0, .int .i64 0] 24)) ((Below.refl _ _).alloc (Nat.le_refl _) _)
  clear C
  go_enter Tryd.func17, Tryd.ntmps17
  go_wp2_with fail
  refine c1.mono ?_
  rintro e w1 ⟨q, rfl, ht, hb1'⟩
  obtain ⟨bt, vl, vr, hq, hltb, t0, t1, t2, t3, t4, hl, hr⟩ := ht
  obtain rfl := Value.pointer.inj hq
  obtain ⟨pl, rfl⟩ := hl.ptr
  obtain ⟨pr, rfl⟩ := hr.ptr
  obtain ⟨b0, b1, f0, f1, hlt, hb1, b2⟩ := told_cell hb1'
  have hne : ¬ bt = w.heap.size := fun e => by rw [e, b2] at t2; cases t2
  have hne' : ¬ w.heap.size = bt := fun e => hne e.symm
  have HL : Hid (TrAt w1 l (.pointer pl)) := hl
  have HR : Hid (TrAt w1 r (.pointer pr)) := hr
  clear hb1' c1 hl hr hq t2 b2
  go_wp2_with fail
  go_region_held3 (fun w' => w'.cell? ⟨bt, 0, none⟩ = some (.int .i64 k) ∧ w'.cell? ⟨bt, 1, none⟩ = some (.int .i64 i) ∧ w'.cell? ⟨bt, 3, none⟩ = some (.pointer pl) ∧ w'.cell? ⟨bt, 4, none⟩ = some (.pointer pr)) (first | go_keep | (exact ⟨j0, j1, j3, j4⟩) | (exact ⟨m0, m1, m3, m4⟩))
    (first | (go_at_call 35; refine (melded_any l r hs _ _ _ ?_ ?_).mono ?_; (exact HL.out.below (below_dn (Below.refl _ _) 1)); (exact HR.out.below (below_dn (Below.refl _ _) 1)); rintro e w3 ⟨v3, rfl, ht3, hb3'⟩; have hb3 : Below w1.heap.size w1 w3 := (below_dn (Below.refl _ _) 1).trans hb3'; obtain ⟨p3, rfl⟩ := ht3.ptr; have j0 := (hb3.cell (p := ⟨bt, 0, none⟩) hltb).trans t0; have j1 := (hb3.cell (p := ⟨bt, 1, none⟩) hltb).trans t1; have j3 := (hb3.cell (p := ⟨bt, 3, none⟩) hltb).trans t3; have j4 := (hb3.cell (p := ⟨bt, 4, none⟩) hltb).trans t4; have hlt3 : bt < w3.heap.size := Nat.lt_of_lt_of_le hltb hb3.size; have HT3 : Hid (TrAt w3 (LT.meld l r) (.pointer p3)) := ht3; clear ht3 hb3') | (go_at_call 34; refine (written_any (LT.meld l r) _ _ HT3.out (by rw [LT.meld_size]; exact hs)).mono ?_; rintro e w4 ⟨v4, rfl, ho4, hb4'⟩; have m0 := (hb4'.cell (p := ⟨bt, 0, none⟩) hlt3).trans j0; have m1 := (hb4'.cell (p := ⟨bt, 1, none⟩) hlt3).trans j1; have m3 := (hb4'.cell (p := ⟨bt, 3, none⟩) hlt3).trans j3; have m4 := (hb4'.cell (p := ⟨bt, 4, none⟩) hlt3).trans j4; have hb4 : Below w1.heap.size w1 w4 := hb3.trans (hb4'.mono hb3.size); have HO4 : Hid (OwnE EN w4 w3.heap.size v4 (LT.enc 0 (LT.meld l r))) := ho4; have e0 := (hb4.cell (p := ⟨w.heap.size, 0, none⟩) hlt).trans b0; have e1 := (hb4.cell (p := ⟨w.heap.size, 1, none⟩) hlt).trans b1; have g0 := (World.frozen?_of_block (a := ⟨w.heap.size, 0, none⟩) (hb4.block _ hlt)).trans f0; have g1 := (World.frozen?_of_block (a := ⟨w.heap.size, 1, none⟩) (hb4.block _ hlt)).trans f1; have hw3 : w1.heap.size ≤ w3.heap.size := hb3.size; clear ho4 hb4'))
  all_goals
    go_wp2
    refine bodyPost_ret (by simp [results, Tryd.results17, go_sem, e0, e1]; try rfl) rfl ?_
    refine ⟨_, rfl, ?_, ?_⟩
    · have ho : OwnE EN ((w4.setCell ⟨w.heap.size, 0, none⟩ (.int .i64 k)).setCell ⟨w.heap.size, 1, none⟩ (.int .i64 i)) w3.heap.size v4 (LT.enc 0 (LT.meld l r)) := by
        refine World.ownsRow.kept (row := some w.heap.size) HO4.out (gb_set (World.grownBy.refl _ _) _ _ _ _) ?_
        cases hv : v4.ownBlock with
        | none => exact Or.inl rfl
        | some g => exact Or.inr fun e => by have h1 := (World.ownsRow.lt HO4.out g hv).1; have h2 := Option.some.inj e; omega
      exact ho.weak (by omega)
    · have hb5 := hb1.trans (hb4.mono hb1.size)
      exact (hb5.setCell (p := ⟨w.heap.size, 0, none⟩) (Nat.le_refl _) _).setCell (p := ⟨w.heap.size, 1, none⟩) (Nat.le_refl _) _
/-- What is wrong with a heap that is to be popped. -/
def PopE (xs : List Nd) (k : Nat) : Prop := (k ≠ 0 ∧ LT.Says xs k 0) ∨ (xs = [] ∧ k = 5)
theorem leanPop_bad (v : Value) (xs : List Nd) (k : Nat) (w : World) (hx : SlE EN w v xs) (hbig : xs.length ≤ 9223372036854775807) (hk : PopE xs k) :
    Calls Tryd.prog 17 #[v] w fun e w' => e = .returned (.tuple #[.agg #[.int .i64 0, .int .i64 0], .slice none 0 0, .iface 56 (.int .i64 k)]) ∧ Below w.heap.size w w' := by
  obtain ⟨p, cap, rfl, _⟩ := id hx
  rcases hk with ⟨h0, hs⟩ | ⟨rfl, rfl⟩
  · exact leanPop_A p _ cap k w fun w1 hb => read_bad _ xs k w1 (hx.below hb) h0 hs hbig
  · exact leanPop_B p cap w fun w1 hb => read_good _ [] .nil w1 (hx.below hb) IsL.nil
theorem leanPop_good (v : Value) (xs : List Nd) (k i : Int) (l r : LT) (w : World) (hx : SlE EN w v xs) (hs : IsL xs (.node k i l r)) :
    Calls Tryd.prog 17 #[v] w fun e w' => ∃ v', e = .returned (.tuple #[.agg #[.int .i64 k, .int .i64 i], v', .nilIface]) ∧ OwnE EN w' w.heap.size v' (LT.enc 0 (LT.meld l r)) ∧ Below w.heap.size w w' := by
  obtain ⟨p, cap, rfl, _⟩ := id hx
  exact leanPop_C p _ cap k i l r w (by have := hs.le; simp only [LT.size] at this; omega) fun w1 hb => read_good _ xs _ w1 (hx.below hb) hs
#print axioms leanPop_bad
#print axioms leanPop_good
#print axioms leanPush_bad
#print axioms leanPush_good
end Go.Proofs.YtoaabpoicacogaaDoor
