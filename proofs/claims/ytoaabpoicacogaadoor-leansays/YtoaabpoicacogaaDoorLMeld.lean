/-
  lean.melded: the meld of two trees in memory.
-/
import Derived.Test.YtoaabpoicacogaaDoorLTree
namespace Go.Proofs.YtoaabpoicacogaaDoor
open Go.RowKit Go.Proofs

set_option maxHeartbeats 4000000 in
theorem melded_second (k i k' i' : Int) (l r l' r' : LT) (va vb : Value) (w : World) (hc : k' < k) (HA : Hid (TrAt w (.node k i l r) va)) (HB : Hid (TrAt w (.node k' i' l' r') vb))
    (hs1 : l'.spine ≤ 1000) (hs2 : (LT.meld (.node k i l r) r').spine ≤ 1000)
    (IH : Hid (∀ (w' : World) (v : Value), TrAt w' (.node k i l r) va → TrAt w' r' v → Calls Tryd.prog 35 #[va, v] w' fun e w2 => ∃ v', e = .returned v' ∧ TrAt w2 (LT.meld (.node k i l r) r') v' ∧ Below w'.heap.size w' w2)) :
    Calls Tryd.prog 35 #[va, vb] w fun e w' => ∃ v', e = .returned v' ∧ TrAt w' (LT.mk k' i' l' (LT.meld (.node k i l r) r')) v' ∧ Below w.heap.size w w' := by
  obtain ⟨ba, vla, vra, rfl, hlta, a0, a1, a2, a3, a4, hla, hra⟩ := id HA.out
  obtain ⟨bb, vlb, vrb, rfl, hltb, b0, b1, b2, b3, b4, hlb, hrb⟩ := id HB.out
  obtain ⟨pla, rfl⟩ := hla.ptr
  obtain ⟨pra, rfl⟩ := hra.ptr
  obtain ⟨plb, rfl⟩ := hlb.ptr
  obtain ⟨prb, rfl⟩ := hrb.ptr
  have HLB : Hid (TrAt w l' (.pointer plb)) := hlb
  have HRB : Hid (TrAt w r' (.pointer prb)) := hrb
  clear hla hra hlb hrb
  have hcd : decide (k' < k) = true := decide_eq_true hc
  go_enter Tryd.func35, Tryd.ntmps35
  go_wp2_with fail
  go_quiet (fail)
  go_wp2_with fail
  have hq : Below w.heap.size w (w.drewN nq) := below_dn (Below.refl _ _) nq
  have HAq : Hid (TrAt (w.drewN nq) (.node k i l r) (.pointer (some ⟨ba, 0, none⟩))) := HA.out.below hq
  have HLBq : Hid (TrAt (w.drewN nq) l' (.pointer plb)) := HLB.out.below hq
  have HRBq : Hid (TrAt (w.drewN nq) r' (.pointer prb)) := HRB.out.below hq
  have q0 : (w.drewN nq).cell? ⟨bb, 0, none⟩ = some (.int .i64 k') := b0
  have q1 : (w.drewN nq).cell? ⟨bb, 1, none⟩ = some (.int .i64 i') := b1
  have q3 : (w.drewN nq).cell? ⟨bb, 3, none⟩ = some (.pointer plb) := b3
  have q4 : (w.drewN nq).cell? ⟨bb, 4, none⟩ = some (.pointer prb) := b4
  have hltq : bb < (w.drewN nq).heap.size := hltb
  clear HA HB HLB HRB a0 a1 a2 a3 a4 b0 b1 b2 b3 b4 hltb hlta
  generalize w.drewN nq = wq at hq HAq HLBq HRBq q0 q1 q3 q4 hltq ⊢
  go_region_held3 (fun w' => w'.cell? ⟨bb, 0, none⟩ = some (.int .i64 k') ∧ w'.cell? ⟨bb, 1, none⟩ = some (.int .i64 i') ∧ w'.cell? ⟨bb, 3, none⟩ = some (.pointer plb) ∧ w'.cell? ⟨bb, 4, none⟩ = some (.pointer prb)) (first | go_keep | (exact ⟨j0, j1, j3, j4⟩) | (exact ⟨m0, m1, m3, m4⟩))
    (first | (go_at_call 35; refine (IH.out _ _ ?_ ?_).mono ?_; (exact HAq.out.below (below_dn (Below.refl _ _) 1)); (exact HRBq.out.below (below_dn (Below.refl _ _) 1)); rintro e w3 ⟨v3, rfl, ht3, hb3'⟩; have hb3 : Below wq.heap.size wq w3 := (below_dn (Below.refl _ _) 1).trans hb3'; obtain ⟨p3, rfl⟩ := ht3.ptr; have j0 := (hb3.cell (p := ⟨bb, 0, none⟩) hltq).trans q0; have j1 := (hb3.cell (p := ⟨bb, 1, none⟩) hltq).trans q1; have j3 := (hb3.cell (p := ⟨bb, 3, none⟩) hltq).trans q3; have j4 := (hb3.cell (p := ⟨bb, 4, none⟩) hltq).trans q4; have HL3 : Hid (TrAt w3 l' (.pointer plb)) := (HLBq.out.below hb3); have hlt3 : bb < w3.heap.size := Nat.lt_of_lt_of_le hltq hb3.size; have hq3 : Below w.heap.size w w3 := hq.trans (Below.mono hb3 hq.size); have HT3 : Hid (TrAt w3 (LT.meld (.node k i l r) r') (.pointer p3)) := ht3; clear ht3 hb3 hb3') | (go_at_call 44; refine (leaning_any k' i' (HL3.out) (HT3.out) hs1 hs2).mono ?_; rintro e w4 ⟨v4, rfl, ht4, hb4⟩; have m0 := (hb4.cell (p := ⟨bb, 0, none⟩) hlt3).trans j0; have m1 := (hb4.cell (p := ⟨bb, 1, none⟩) hlt3).trans j1; have m3 := (hb4.cell (p := ⟨bb, 3, none⟩) hlt3).trans j3; have m4 := (hb4.cell (p := ⟨bb, 4, none⟩) hlt3).trans j4; have hq4 : Below w.heap.size w w4 := hq3.trans (hb4.mono hq3.size); have HT4 : Hid (TrAt w4 (LT.mk k' i' l' (LT.meld (.node k i l r) r')) v4) := ht4; clear ht4 hb4))
  all_goals
    go_wp2
    go_ret
    exact ⟨_, rfl, HT4.out, hq4⟩
set_option maxHeartbeats 4000000 in
theorem melded_first (k i k' i' : Int) (l r l' r' : LT) (va vb : Value) (w : World) (hc : ¬ k' < k) (HA : Hid (TrAt w (.node k i l r) va)) (HB : Hid (TrAt w (.node k' i' l' r') vb))
    (hs1 : l.spine ≤ 1000) (hs2 : (LT.meld r (.node k' i' l' r')).spine ≤ 1000)
    (IH : Hid (∀ (w' : World) (v : Value), TrAt w' r v → TrAt w' (.node k' i' l' r') vb → Calls Tryd.prog 35 #[v, vb] w' fun e w2 => ∃ v', e = .returned v' ∧ TrAt w2 (LT.meld r (.node k' i' l' r')) v' ∧ Below w'.heap.size w' w2)) :
    Calls Tryd.prog 35 #[va, vb] w fun e w' => ∃ v', e = .returned v' ∧ TrAt w' (LT.mk k i l (LT.meld r (.node k' i' l' r'))) v' ∧ Below w.heap.size w w' := by
  obtain ⟨ba, vla, vra, rfl, hlta, a0, a1, a2, a3, a4, hla, hra⟩ := id HA.out
  obtain ⟨bb, vlb, vrb, rfl, hltb, b0, b1, b2, b3, b4, hlb, hrb⟩ := id HB.out
  obtain ⟨pla, rfl⟩ := hla.ptr
  obtain ⟨pra, rfl⟩ := hra.ptr
  obtain ⟨plb, rfl⟩ := hlb.ptr
  obtain ⟨prb, rfl⟩ := hrb.ptr
  have HLB : Hid (TrAt w l (.pointer pla)) := hla
  have HRB : Hid (TrAt w r (.pointer pra)) := hra
  clear hla hra hlb hrb
  have hcd : decide (k' < k) = false := decide_eq_false hc
  go_enter Tryd.func35, Tryd.ntmps35
  go_wp2_with fail
  go_quiet (fail)
  go_wp2_with fail
  have hq : Below w.heap.size w (w.drewN nq) := below_dn (Below.refl _ _) nq
  have HAq : Hid (TrAt (w.drewN nq) (.node k' i' l' r') (.pointer (some ⟨bb, 0, none⟩))) := HB.out.below hq
  have HLBq : Hid (TrAt (w.drewN nq) l (.pointer pla)) := HLB.out.below hq
  have HRBq : Hid (TrAt (w.drewN nq) r (.pointer pra)) := HRB.out.below hq
  have q0 : (w.drewN nq).cell? ⟨ba, 0, none⟩ = some (.int .i64 k) := a0
  have q1 : (w.drewN nq).cell? ⟨ba, 1, none⟩ = some (.int .i64 i) := a1
  have q3 : (w.drewN nq).cell? ⟨ba, 3, none⟩ = some (.pointer pla) := a3
  have q4 : (w.drewN nq).cell? ⟨ba, 4, none⟩ = some (.pointer pra) := a4
  have hltq : ba < (w.drewN nq).heap.size := hlta
  clear HA HB HLB HRB a0 a1 a2 a3 a4 b0 b1 b2 b3 b4 hltb hlta
  generalize w.drewN nq = wq at hq HAq HLBq HRBq q0 q1 q3 q4 hltq ⊢
  go_region_held3 (fun w' => w'.cell? ⟨ba, 0, none⟩ = some (.int .i64 k) ∧ w'.cell? ⟨ba, 1, none⟩ = some (.int .i64 i) ∧ w'.cell? ⟨ba, 3, none⟩ = some (.pointer pla) ∧ w'.cell? ⟨ba, 4, none⟩ = some (.pointer pra)) (first | go_keep | (exact ⟨j0, j1, j3, j4⟩) | (exact ⟨m0, m1, m3, m4⟩))
    (first | (go_at_call 35; refine (IH.out _ _ ?_ ?_).mono ?_; (exact HRBq.out.below (below_dn (Below.refl _ _) 1)); (exact HAq.out.below (below_dn (Below.refl _ _) 1)); rintro e w3 ⟨v3, rfl, ht3, hb3'⟩; have hb3 : Below wq.heap.size wq w3 := (below_dn (Below.refl _ _) 1).trans hb3'; obtain ⟨p3, rfl⟩ := ht3.ptr; have j0 := (hb3.cell (p := ⟨ba, 0, none⟩) hltq).trans q0; have j1 := (hb3.cell (p := ⟨ba, 1, none⟩) hltq).trans q1; have j3 := (hb3.cell (p := ⟨ba, 3, none⟩) hltq).trans q3; have j4 := (hb3.cell (p := ⟨ba, 4, none⟩) hltq).trans q4; have HL3 : Hid (TrAt w3 l (.pointer pla)) := (HLBq.out.below hb3); have hlt3 : ba < w3.heap.size := Nat.lt_of_lt_of_le hltq hb3.size; have hq3 : Below w.heap.size w w3 := hq.trans (Below.mono hb3 hq.size); have HT3 : Hid (TrAt w3 (LT.meld r (.node k' i' l' r')) (.pointer p3)) := ht3; clear ht3 hb3 hb3') | (go_at_call 44; refine (leaning_any k i (HL3.out) (HT3.out) hs1 hs2).mono ?_; rintro e w4 ⟨v4, rfl, ht4, hb4⟩; have m0 := (hb4.cell (p := ⟨ba, 0, none⟩) hlt3).trans j0; have m1 := (hb4.cell (p := ⟨ba, 1, none⟩) hlt3).trans j1; have m3 := (hb4.cell (p := ⟨ba, 3, none⟩) hlt3).trans j3; have m4 := (hb4.cell (p := ⟨ba, 4, none⟩) hlt3).trans j4; have hq4 : Below w.heap.size w w4 := hq3.trans (hb4.mono hq3.size); have HT4 : Hid (TrAt w4 (LT.mk k i l (LT.meld r (.node k' i' l' r'))) v4) := ht4; clear ht4 hb4))
  all_goals
    go_wp2
    go_ret
    exact ⟨_, rfl, HT4.out, hq4⟩
set_option maxHeartbeats 1000000 in
theorem melded_none (vb : Value) (pb : Option Addr) (hp : vb = .pointer pb) (w : World) : Calls Tryd.prog 35 #[.pointer none, vb] w fun e w' => e = .returned vb ∧ w' = w := by
  subst hp
  go_enter Tryd.func35, Tryd.ntmps35
  go_wp2
  go_ret
  exact ⟨rfl, rfl⟩
set_option maxHeartbeats 1000000 in
theorem melded_other (a : Addr) (w : World) : Calls Tryd.prog 35 #[.pointer (some a), .pointer none] w fun e w' => e = .returned (.pointer (some a)) ∧ w' = w := by
  go_enter Tryd.func35, Tryd.ntmps35
  go_wp2
  go_ret
  exact ⟨rfl, rfl⟩
theorem melded_any (a b : LT) : a.size + b.size ≤ 1000 → ∀ (w : World) (va vb : Value), TrAt w a va → TrAt w b vb → Calls Tryd.prog 35 #[va, vb] w fun e w' => ∃ v', e = .returned v' ∧ TrAt w' (LT.meld a b) v' ∧ Below w.heap.size w w' := by
  refine LT.meld_ind (motive := fun a b => a.size + b.size ≤ 1000 → ∀ (w : World) (va vb : Value), TrAt w a va → TrAt w b vb → Calls Tryd.prog 35 #[va, vb] w fun e w' => ∃ v', e = .returned v' ∧ TrAt w' (LT.meld a b) v' ∧ Below w.heap.size w w') ?_ ?_ ?_ ?_ a b
  · intro b _ w va vb ha hb
    obtain rfl : va = .pointer none := ha
    obtain ⟨pb, hp⟩ := hb.ptr
    refine (melded_none vb pb hp w).mono ?_
    rintro e w' ⟨rfl, rfl⟩
    exact ⟨_, rfl, by rw [LT.meld_nil_left]; exact hb, Below.refl _ _⟩
  · intro a _ w va vb ha hb
    obtain rfl : vb = .pointer none := hb
    cases a using LT.parts with
    | nil =>
      obtain rfl : va = .pointer none := ha
      refine (melded_none _ none rfl w).mono ?_
      rintro e w' ⟨rfl, rfl⟩
      exact ⟨_, rfl, by rw [LT.meld_nil_left]; rfl, Below.refl _ _⟩
    | node k i l r =>
      obtain ⟨p, hp⟩ : ∃ p, va = .pointer (some p) := by obtain ⟨blk, _, _, e, _⟩ := ha; exact ⟨_, e⟩
      subst hp
      refine (melded_other p w).mono ?_
      rintro e w' ⟨rfl, rfl⟩
      exact ⟨_, rfl, by rw [LT.meld_nil_right]; exact ha, Below.refl _ _⟩
  · intro k i l r k' i' l' r' hc ih hsz w va vb ha hb
    rw [LT.meld_gt hc]
    have h1 := LT.spine_le l'
    have h2 := LT.spine_le (LT.meld (.node k i l r) r')
    rw [LT.meld_size] at h2
    simp only [LT.size] at hsz h2
    exact melded_second k i k' i' l r l' r' va vb w hc ha hb (by omega) (by omega) fun w' v q1 q2 => ih (by simp only [LT.size]; omega) w' _ v q1 q2
  · intro k i l r k' i' l' r' hc ih hsz w va vb ha hb
    rw [LT.meld_le hc]
    have h1 := LT.spine_le l
    have h2 := LT.spine_le (LT.meld r (.node k' i' l' r'))
    rw [LT.meld_size] at h2
    simp only [LT.size] at hsz h2
    exact melded_first k i k' i' l r l' r' va vb w hc ha hb (by omega) (by omega) fun w' v q1 q2 => ih (by simp only [LT.size]; omega) w' v _ q1 q2
#print axioms melded_any
end Go.Proofs.YtoaabpoicacogaaDoor
