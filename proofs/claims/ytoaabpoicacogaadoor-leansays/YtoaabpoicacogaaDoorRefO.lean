/-
  The document's leaning heaps: what is right is told so; melding and popping.
-/
import Derived.Test.YtoaabpoicacogaaDoorRefM
import Derived.Test.YtoaabpoicacogaaDoorRefN
namespace Go.Proofs.YtoaabpoicacogaaDoor
open Go.RowKit Go.Proofs

theorem says_right {t : LT} (hl : LT.Leans t) (hr : InR t) (h60 : t.size ≤ 60) : LT.Says (LT.enc 0 t) 0 t.spine :=
  .right t (by rw [LT.enc_length]; exact h60) (enc_right hr 0) rfl hl
theorem leanC : LeanC := fun v t w hs hl hr h60 =>
  (lean_any v _ w hs (by rw [LT.enc_length]; omega)).mono fun e w' ⟨a, b, he, hsays, hb⟩ => by
    obtain ⟨rfl, rfl⟩ := hsays.unique (says_right hl hr h60)
    exact ⟨he, hb⟩
/-- The document's LeanMeld. -/
theorem refMeld_any (a b : LT) (u v : Value) (w : World) (h60 : a.size + b.size ≤ 60) (la : LT.Leans a) (lb : LT.Leans b) (ia : InR a) (ib : InR b) (hu : SlE EN w u (LT.enc 0 a)) (hv : SlE EN w v (LT.enc 0 b)) :
    Calls Tryd.prog 12 #[u, v] w fun e w' => ∃ r, e = .returned r ∧ OwnE EN w' w.heap.size r (LT.enc 0 (LT.meld a b)) ∧ Below w.heap.size w w' :=
  meld_any leanC _ a b u v w (Nat.le_refl _) h60 la lb ia ib hu hv
set_option maxHeartbeats 4000000 in
/-- The document's LeanPop. -/
theorem refLeanPop_any (blk off n cap : Nat) (k d : Int) (a b : LT) (w : World) (hn : n ≤ 60) (HN : Hid (a.size + b.size + 1 = n)) (HL : Hid (LT.Leans (.node k d a b))) (HI : Hid (InR (.node k d a b))) (HR : Hid (RdE EN w blk off (LT.enc 0 (.node k d a b)))) :
    Calls Tryd.prog 16 #[.slice (some ⟨blk, off, none⟩) n cap] w fun e w' => ∃ u, e = .returned u ∧ OwnE EN w' w.heap.size u (LT.enc 0 (LT.meld a b)) ∧ Below w.heap.size w w' := by
  have cl := lefts_any blk off n cap k d a b w hn HN HR
  have CL : Hid _ := cl
  clear cl
  go_enter Tryd.func16, Tryd.ntmps16
  go_wp2_with fail
  refine Calls.mono CL.out ?_
  rintro e w1 ⟨ul, rfl, hol, hb1⟩
  have SL1 : Hid (SlE EN w1 ul (LT.enc 0 a)) := hol.sl
  have HR1 : Hid (RdE EN w1 blk off (LT.enc 0 (.node k d a b))) := HR.out.below hb1 HR.out.1
  have cr := rights_any blk off n cap k d a b w1 hn HN HR1
  have CR : Hid _ := cr
  clear cr hol CL
  go_wp2_with fail
  refine Calls.mono CR.out ?_
  rintro e w2 ⟨ur, rfl, hor, hb2'⟩
  have hb2 := hb1.trans (hb2'.mono hb1.size)
  have SL2 : Hid (SlE EN w2 ul (LT.enc 0 a)) := SL1.out.below hb2'
  have SR2 : Hid (SlE EN w2 ur (LT.enc 0 b)) := hor.sl
  have cm := refMeld_any a b ul ur w2 (by have := HN.out; omega) HL.out.2.2.2.1 HL.out.2.2.2.2 HI.out.left HI.out.right SL2.out SR2.out
  have CM : Hid _ := cm
  clear cm hor hb2' CR SL1 HR1
  go_wp2_with fail
  refine Calls.mono CM.out ?_
  rintro e w3 ⟨u, rfl, ho, hb3'⟩
  have hb3 := hb2.trans (hb3'.mono hb2.size)
  have HO : Hid (OwnE EN w3 w.heap.size u (LT.enc 0 (LT.meld a b))) := ho.weak hb2.size
  clear ho hb3'
  go_wp2
  go_ret
  exact ⟨_, rfl, HO.out, hb3⟩
#print axioms refLeanPop_any
end Go.Proofs.YtoaabpoicacogaaDoor
