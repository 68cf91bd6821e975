/-
  The law LeanSorts, walked: popped one by one all come sorted, in whatever way it was grown.
-/
import Derived.Test.YtoaabpoicacogaaDoorLBag
import Derived.Test.YtoaabpoicacogaaDoorBothW
import Derived.Test.YtoaabpoicacogaaDoorKeysS
import Derived.Test.YtoaabpoicacogaaDoorSortW
import Derived.Test.YtoaabpoicacogaaDoorSMath
import Derived.Test.YtoaabpoicacogaaDoorTold
namespace Go.Proofs.YtoaabpoicacogaaDoor
open Go.RowKit Go.Sort Go.Proofs

/-- Of xs the items os were popped, one by one, and the heap t is left. -/
structure PopsL (xs : List (Int × Int)) (os : List (Int × Int)) (t : LT) : Prop where
  perm : (os ++ t.items).Perm xs
  leans : LT.Leans t
  inR : InR t
  srt : os.Pairwise (fun x y => x.1 ≤ y.1)
  le : ∀ o ∈ os, ∀ d ∈ t.items, o.1 ≤ d.1
theorem PopsL.start {xs : List (Int × Int)} {t : LT} (h : t.items.Perm xs) (hl : LT.Leans t) (hr : InR t) : PopsL xs [] t := ⟨by simpa using h, hl, hr, List.Pairwise.nil, fun _ h => by cases h⟩
theorem PopsL.pop {xs os : List (Int × Int)} {k i : Int} {a b : LT} (h : PopsL xs os (.node k i a b)) : PopsL xs (os ++ [(k, i)]) (LT.meld a b) := by
  have hm : ((k, i) :: (LT.meld a b).items).Perm (LT.node k i a b).items := List.Perm.cons _ (LT.meld_items a b)
  have sub : ∀ d, d ∈ (LT.meld a b).items → d ∈ (LT.node k i a b).items := fun d hd => hm.mem_iff.1 (List.mem_cons_of_mem _ hd)
  refine ⟨?_, LT.meld_leans _ _ h.leans.2.2.2.1 h.leans.2.2.2.2, h.inR.left.meld h.inR.right, ?_, ?_⟩
  · rw [List.append_assoc]
    exact (List.Perm.append_left os hm).trans h.perm
  · rw [List.pairwise_append]
    exact ⟨h.srt, List.pairwise_singleton _ _, fun x hx y hy => by rw [List.mem_singleton.1 hy]; exact h.le x hx _ (by simp [LT.items])⟩
  · intro o ho d hd
    rcases List.mem_append.1 ho with q | q
    · exact h.le o q d (sub d hd)
    · rw [List.mem_singleton.1 q]
      exact LT.root_least (.node k i a b) k (show k ≤ k from Int.le_refl k) h.leans d (sub d hd)
/-- What is popped has the keys that a sort has. -/
theorem keys_poppedL {xs zs : Array (Int × Int)} {os : List (Int × Int)} (hp : os.Perm xs.toList) (hs : os.Pairwise (fun x y => x.1 ≤ y.1)) (h : Sorts xs zs) : ∀ i, i < os.toArray.size → os.toArray[i]!.1 = zs[i]!.1 := by
  have e : os.map (·.1) = zs.toList.map (·.1) :=
    perm_sorted_eq _ _ (List.pairwise_map.2 hs) (List.pairwise_map.2 (srt_pairwise h.srt)) ((hp.trans h.st.perm).map _)
  intro i hi
  have hi1 : i < os.length := by simpa using hi
  have hl : os.length = zs.size := by simpa using congrArg List.length e
  have hi2 : i < zs.size := by omega
  have q : (os.map (·.1))[i]? = (zs.toList.map (·.1))[i]? := by rw [e]
  rw [List.getElem?_map, List.getElem?_map, List.getElem?_eq_getElem hi1, List.getElem?_eq_getElem (by simpa using hi2)] at q
  rw [getElem!_pos _ i hi, getElem!_pos zs i hi2]
  simpa using q
theorem wrong_both {xs ys : Array (Int × Int)} (h : wrong xs = 0) (h' : wrong ys = 0) (h60 : xs.size + ys.size ≤ 60) : wrong (xs.toList ++ ys.toList).toArray = 0 := by
  have key : ∀ {xs : Array (Int × Int)}, wrong xs = 0 → anyOut xs = false := fun {xs} h => by
    have := wrong_le h
    unfold wrong at h
    rw [if_neg (by omega)] at h
    cases e : anyOut xs
    · rfl
    · rw [e] at h; simp at h
  have a1 := key h
  have a2 := key h'
  unfold wrong
  rw [if_neg (by simp; omega)]
  unfold anyOut at a1 a2 ⊢
  simp only [List.any_append, a1, a2]
  rfl

set_option maxHeartbeats 4000000 in
theorem leanSorts_A (p p' : Option Addr) (n cap n' cap' : Nat) (w : World)
    (C1 : Hid (∀ w1, Below w.heap.size w w1 → Calls Tryd.prog 19 #[.slice p n cap] w1 fun e w' => ∃ q m c, e = .returned (.tuple #[.slice q m c, .bool false]) ∧ Below w1.heap.size w1 w'))
    (C2 : Hid (∀ w1, Below w.heap.size w w1 → Calls Tryd.prog 19 #[.slice p' n' cap'] w1 fun e w' => ∃ q m c b, e = .returned (.tuple #[.slice q m c, .bool b]) ∧ Below w1.heap.size w1 w')) :
    Calls Tryd.prog 6 #[.slice p n cap, .slice p' n' cap'] w fun e w' => e = .returned (.bool true) ∧ Below w.heap.size w w' := by
  have c0 := leanFact_any w
  go_enter Tryd.func6, Tryd.ntmps6
  go_wp2_with fail
  refine c0.mono ?_
  rintro e w1 ⟨rfl, hb1⟩
  clear c0
  go_wp2_with fail
  refine (C1.out w1 hb1).mono ?_
  rintro e w2 ⟨q1, m1, c1, rfl, hb2'⟩
  have hb2 := hb1.trans (hb2'.mono hb1.size)
  clear hb2' hb1
  go_wp2_with fail
  refine (C2.out w2 hb2).mono ?_
  rintro e w3 ⟨q2, m2, c2, b, rfl, hb3'⟩
  have hb3 := hb2.trans (hb3'.mono hb2.size)
  clear hb3' hb2
  go_wp2
  go_ret
  exact ⟨rfl, hb3⟩
set_option maxHeartbeats 4000000 in
theorem leanSorts_B (p p' : Option Addr) (n cap n' cap' : Nat) (w : World)
    (C1 : Hid (∀ w1, Below w.heap.size w w1 → Calls Tryd.prog 19 #[.slice p n cap] w1 fun e w' => ∃ q m c, e = .returned (.tuple #[.slice q m c, .bool true]) ∧ Below w1.heap.size w1 w'))
    (C2 : Hid (∀ w1, Below w.heap.size w w1 → Calls Tryd.prog 19 #[.slice p' n' cap'] w1 fun e w' => ∃ q m c, e = .returned (.tuple #[.slice q m c, .bool false]) ∧ Below w1.heap.size w1 w')) :
    Calls Tryd.prog 6 #[.slice p n cap, .slice p' n' cap'] w fun e w' => e = .returned (.bool true) ∧ Below w.heap.size w w' := by
  have c0 := leanFact_any w
  go_enter Tryd.func6, Tryd.ntmps6
  go_wp2_with fail
  refine c0.mono ?_
  rintro e w1 ⟨rfl, hb1⟩
  clear c0
  go_wp2_with fail
  refine (C1.out w1 hb1).mono ?_
  rintro e w2 ⟨q1, m1, c1, rfl, hb2'⟩
  have hb2 := hb1.trans (hb2'.mono hb1.size)
  clear hb2' hb1
  go_wp2_with fail
  refine (C2.out w2 hb2).mono ?_
  rintro e w3 ⟨q2, m2, c2, rfl, hb3'⟩
  have hb3 := hb2.trans (hb3'.mono hb2.size)
  clear hb3' hb2
  go_wp2
  go_ret
  exact ⟨rfl, hb3⟩
set_option maxHeartbeats 8000000 in
set_option maxRecDepth 4000 in
theorem leanSorts_C (p p' : Option Addr) (n cap n' cap' : Nat) (xs ys : Array (Int × Int)) (w : World) (hn : n ≤ 60) (hn' : n' ≤ 60) (HN : Hid (xs.size = n)) (HN' : Hid (ys.size = n')) (HS : Hid (Sl w (.slice p n cap) xs)) (HS' : Hid (Sl w (.slice p' n' cap') ys)) (HW : Hid (wrong xs = 0)) (HW' : Hid (wrong ys = 0)) (hgl : Glob w) (h60 : 60 < n + n') :
    Calls Tryd.prog 6 #[.slice p n cap, .slice p' n' cap'] w fun e w' => e = .returned (.bool true) ∧ Below w.heap.size w w' := by
  have c0 := leanFact_any w
  go_enter Tryd.func6, Tryd.ntmps6
  go_wp2_with fail
  refine c0.mono ?_
  rintro e w1 ⟨rfl, hb1⟩
  clear c0
  go_wp2_with fail
  refine (grown_good _ xs w1 (HS.out.below hb1) HW.out).mono ?_
  rintro e w2 ⟨q1, c1, t1, he, hs1, hg1, hb2'⟩
  rw [HN.out] at he hs1 hg1
  subst he
  have hb2 := hb1.trans (hb2'.mono hb1.size)
  have HS1 : Hid (SlE EN w2 (.slice q1 n c1) (LT.enc 0 t1)) := hs1
  have HG1 : Hid (GrowsL xs n t1) := hg1
  clear hb2' hb1 hs1 hg1
  go_wp2_with fail
  refine (grown_good _ ys w2 (HS'.out.below hb2) HW'.out).mono ?_
  rintro e w3 ⟨q2, c2, t2, he, hs2, hg2, hb3'⟩
  rw [HN'.out] at he hs2 hg2
  subst he
  have hb3 := hb2.trans (hb3'.mono hb2.size)
  have HA3 : Hid (SlE EN w3 (.slice q1 n c1) (LT.enc 0 t1)) := HS1.out.below hb3'
  have HB3 : Hid (SlE EN w3 (.slice q2 n' c2) (LT.enc 0 t2)) := hs2
  have HG2 : Hid (GrowsL ys n' t2) := hg2
  clear hb3' hb2 hs2 hg2 HS1
  have cM := leanMeld_bad _ _ _ _ 4 w3 HA3.out HB3.out (by rw [LT.enc_length, HG1.out.size]; omega) (by rw [LT.enc_length, HG2.out.size]; omega) (Or.inr ⟨t1, HG1.out.isL hn, Or.inr ⟨t2, HG2.out.isL hn', by rw [HG1.out.size, HG2.out.size]; exact h60, rfl⟩⟩)
  go_wp2_with fail
  refine cM.mono ?_
  rintro e w4 ⟨rfl, hb4'⟩
  have hb4 := hb3.trans (hb4'.mono hb3.size)
  have cE := error_any 4 4 w4 (hgl.below hb4)
  clear hb4' cM
  go_wp2_with fail
  refine cE.mono ?_
  rintro e w5 ⟨rfl, hb5'⟩
  have hb5 := hb4.trans (hb5'.mono hb4.size)
  go_wp2
  go_ret
  exact ⟨rfl, hb5⟩
set_option maxHeartbeats 16000000 in
set_option maxRecDepth 4000 in
theorem leanSorts_D (p p' : Option Addr) (n cap n' cap' : Nat) (xs ys : Array (Int × Int)) (w : World) (hn : n ≤ 60) (hn' : n' ≤ 60) (HN : Hid (xs.size = n)) (HN' : Hid (ys.size = n')) (HS : Hid (Sl w (.slice p n cap) xs)) (HS' : Hid (Sl w (.slice p' n' cap') ys)) (HW : Hid (wrong xs = 0)) (HW' : Hid (wrong ys = 0)) (_hgl : Glob w) (h60 : n + n' ≤ 60) :
    Calls Tryd.prog 6 #[.slice p n cap, .slice p' n' cap'] w fun e w' => e = .returned (.bool true) ∧ Below w.heap.size w w' := by
  have c0 := leanFact_any w
  go_enter Tryd.func6, Tryd.ntmps6
  go_wp2_with fail
  refine c0.mono ?_
  rintro e w1 ⟨rfl, hb1⟩
  clear c0
  go_wp2_with fail
  refine (grown_good _ xs w1 (HS.out.below hb1) HW.out).mono ?_
  rintro e w2 ⟨q1, c1, t1, he, hs1, hg1, hb2'⟩
  rw [HN.out] at he hs1 hg1
  subst he
  have hb2 := hb1.trans (hb2'.mono hb1.size)
  have HS1 : Hid (SlE EN w2 (.slice q1 n c1) (LT.enc 0 t1)) := hs1
  have HG1 : Hid (GrowsL xs n t1) := hg1
  clear hb2' hb1 hs1 hg1
  go_wp2_with fail
  refine (grown_good _ ys w2 (HS'.out.below hb2) HW'.out).mono ?_
  rintro e w3 ⟨q2, c2, t2, he, hs2, hg2, hb3'⟩
  rw [HN'.out] at he hs2 hg2
  subst he
  have hb3 := hb2.trans (hb3'.mono hb2.size)
  have HA3 : Hid (SlE EN w3 (.slice q1 n c1) (LT.enc 0 t1)) := HS1.out.below hb3'
  have HB3 : Hid (SlE EN w3 (.slice q2 n' c2) (LT.enc 0 t2)) := hs2
  have HG2 : Hid (GrowsL ys n' t2) := hg2
  clear hb3' hb2 hs2 hg2 HS1
  have cM := leanMeld_good _ _ _ _ t1 t2 w3 HA3.out HB3.out (HG1.out.isL hn) (HG2.out.isL hn') (by rw [HG1.out.size, HG2.out.size]; exact h60)
  have HL : Hid (IsL (LT.enc 0 (LT.meld t1 t2)) (LT.meld t1 t2)) := (HG1.out.isL hn).meld (HG2.out.isL hn') (by rw [HG1.out.size, HG2.out.size]; exact h60)
  have HZ : Hid ((LT.meld t1 t2).size = n + n') := by show _ = _; rw [LT.meld_size, HG1.out.size, HG2.out.size]
  go_wp2_with fail
  refine cM.mono ?_
  rintro e w4 ⟨v4, rfl, ho4, hb4'⟩
  have hb4 := hb3.trans (hb4'.mono hb3.size)
  obtain ⟨pm, cm, hv4⟩ := ho4.form
  rw [LT.enc_length, HZ.out] at hv4
  subst hv4
  have HM : Hid (SlE EN w4 (.slice pm (n + n') cm) (LT.enc 0 (LT.meld t1 t2))) := ho4.sl
  have HP : Hid ((LT.meld t1 t2).items.Perm (xs.toList ++ ys.toList)) := melded_items HG1.out HG2.out HN.out HN'.out
  clear ho4 hb4' cM HA3 HB3
  generalize hM : LT.meld t1 t2 = M at HL HZ HM HP
  clear hM HG1 HG2
  obtain ⟨BB, hBB⟩ : ∃ BB, xs.toList ++ ys.toList = BB := ⟨_, rfl⟩
  have cB := (both_any p p' cap cap' n n' xs ys w4 (HS.out.below hb4) (HS'.out.below hb4) (by rw [HN.out, HN'.out]; omega))
  have HWB : Hid (wrong BB.toArray = 0) := by show _ = _; rw [← hBB]; exact wrong_both HW.out HW'.out (by rw [HN.out, HN'.out]; exact h60)
  rw [hBB] at cB
  have HPB : Hid (M.items.Perm BB) := by show List.Perm _ _; rw [← hBB]; exact HP.out
  obtain ⟨N, hN⟩ : ∃ N, n + n' = N := ⟨_, rfl⟩
  have HBN : Hid (BB.length = N) := by show _ = _; rw [← hBB, ← hN]; simp [HN.out, HN'.out]
  rw [hN] at HZ HM h60 ⊢
  clear HP hBB hN
  go_wp2_with fail
  refine cB.mono ?_
  rintro e w5 ⟨u5, rfl, ho5, hb5'⟩
  have hb5 := hb4.trans (hb5'.mono hb4.size)
  have HM5 : Hid (SlE EN w5 (.slice pm N cm) (LT.enc 0 M)) := HM.out.below hb5'
  have cS := sort_good u5 BB.toArray w5 ho5.sl HWB.out
  rw [List.size_toArray, HBN.out] at cS
  clear cB ho5 hb5' HM hb4
  go_wp2_with fail
  refine cS.mono ?_
  rintro e wl ⟨gs, zs, rfl, hrs, hso, hbl'⟩
  have hbl := hb5.trans (hbl'.mono hb5.size)
  have HMl : Hid (SlE EN wl (.slice pm N cm) (LT.enc 0 M)) := HM5.out.below hbl'
  have HRS : Hid (RdAt wl gs 0 zs) := hrs
  have HSO : Hid (Sorts BB.toArray zs) := hso
  clear cS hrs hso hbl' HM5 hb5
  go_wp2
  go_loopg [10, 14] N (fun gg vm vo wr => ∃ (k j cm co : Nat) (pm po : Option Addr), vm = .slice pm k cm ∧ vo = .slice po j co ∧ j + k = N ∧ k ≤ gg ∧ ∃ (os : List (Int × Int)) (t : LT), Hid (os.length = j) ∧ Hid (t.size = k) ∧ Hid (OwnI wr wl.heap.size (.slice po j co) os) ∧ Hid (SlE EN wr (.slice pm k cm) (LT.enc 0 t)) ∧ Hid (PopsL BB os t) ∧ Hid (Below wl.heap.size wl wr))
  case atStart => exact ⟨N, 0, cm, 0, pm, none, rfl, rfl, by omega, Nat.le_refl _, [], M, rfl, HZ, OwnI.nil _ _, HMl, PopsL.start HPB.out HL.out.leans HL.out.inR, Below.refl _ _⟩
  case round =>
    obtain ⟨k, j, cm, co, pm, po, rfl, rfl, hjk, hkg, os, t, HJ, HK, HO, HD, HPP, HB⟩ := hrel
    by_cases hlt : j < N
    · have hlz : (j : Int) < (N : Int) := by omega
      cases t using LT.parts with
      | nil => exfalso; have := HK.out; simp [LT.size] at this; omega
      | node x0 x1 a b =>
        have HIL : Hid (IsL (LT.enc 0 (.node x0 x1 a b)) (.node x0 x1 a b)) := IsL.of HPP.out.leans HPP.out.inR (by rw [HK.out]; omega)
        have c := leanPop_good _ _ x0 x1 a b wr HD.out HIL.out
        have HP2 : Hid (PopsL BB (os ++ [(x0, x1)]) (LT.meld a b)) := HPP.out.pop
        obtain ⟨m, rfl⟩ : ∃ m, k = m + 1 := ⟨k - 1, by omega⟩
        have HTZ : Hid ((LT.meld a b).size = m) := by show _ = _; have := HK.out; simp only [LT.size] at this; rw [LT.meld_size]; omega
        have hol : os.length ≤ 60 := by rw [HJ.out]; omega
        go_wp2_with fail
        refine c.mono ?_
        rintro e w3 ⟨v3, rfl, ho3, hb3'⟩
        have hb3 := HB.out.trans (hb3'.mono HB.out.size)
        obtain ⟨p3, c3, hv3⟩ := ho3.form
        rw [LT.enc_length, HTZ.out] at hv3
        subst hv3
        have HO3 : Hid (OwnI w3 wl.heap.size (.slice po j co) os) := HO.out.below hb3'
        have HE3 : Hid (OwnE EN w3 wr.heap.size (.slice p3 m c3) (LT.enc 0 (LT.meld a b))) := ho3
        have HLT : Hid (∀ q, (Value.slice po j co).ownBlock = some q → q < wr.heap.size) := fun q e => (World.ownsRow.lt HO.out q e).2
        have hB3 : wl.heap.size ≤ w3.heap.size := hb3.size
        clear c ho3 hb3' HO HD
        go_wp2_with (first | (at_builtin; refine wpList_append_item rfl (.tmp 69) (.tmp 71) rfl wl.heap.size (.slice po j co) os (x0, x1) ⟨w3.heap.size + 1, 0, none⟩ 1 rfl ((HO3.out.alloc _).alloc _) rfl (by simp) (by simp [Addr.add]) (by omega) (by simp; omega) ?_; intro v' wa hA' hgA hkA))
        have hbq : Below wl.heap.size wl ((w3.alloc (.cells #[.int .i64 x0, .int .i64 x1] 24)).alloc (.cells #[.int .i64 x0, .int .i64 x1] 24)) := (hb3.alloc hB3 _).alloc (by simp; omega) _
        have HBA : Hid (Below wl.heap.size wl wa) := hbq.trans (below_of_grown ((HO3.out.alloc _).alloc _) hgA (Nat.le_refl _) (by simp; omega))
        have HEA : Hid (SlE EN wa (.slice p3 m c3) (LT.enc 0 (LT.meld a b))) := by
          have h1 : OwnE EN wa wr.heap.size (.slice p3 m c3) (LT.enc 0 (LT.meld a b)) := by
            refine World.ownsRow.kept ((HE3.out.alloc _).alloc _) hgA ?_
            cases hv : (Value.slice p3 m c3).ownBlock with
            | none => exact Or.inl rfl
            | some g => exact Or.inr fun e => by have h1 := (World.ownsRow.lt HE3.out g hv).1; have h2 := HLT.out g e.symm; omega
          exact h1.sl
        have HOA : Hid (OwnI wa wl.heap.size v' (os ++ [(x0, x1)])) := hA'
        obtain ⟨po', co', hv'⟩ := hA'.form
        rw [List.length_append, HJ.out] at hv'
        have hv2 : v' = .slice po' (j + 1) co' := hv'
        clear hv' hkA hgA hA' hbq HE3 HLT HO3 hb3
        subst hv2
        go_roundg m
        case measure => omega
        case rel => exact ⟨m, j + 1, c3, co', p3, po', rfl, rfl, by omega, Nat.le_refl _, os ++ [(x0, x1)], _, (show _ = _ by rw [List.length_append, HJ.out]; rfl), HTZ, HOA, HEA, HP2, HBA⟩
    · have hlz : ¬ (j : Int) < (N : Int) := by omega
      obtain rfl : k = 0 := by omega
      obtain rfl : j = N := by omega
      have HT0 : Hid (t = .nil) := LT.size_zero HK.out
      have HPE : Hid (os.Perm BB) := by show List.Perm _ _; have := HPP.out.perm; rw [HT0.out] at this; simpa [LT.items] using this
      have hzsz : zs.size = j := by rw [HSO.out.size, List.size_toArray]; exact HBN.out
      have hosz : os.toArray.size = j := by simpa using HJ.out
      have hrs := HRS.out.below HB.out HRS.out.1
      have hss : Sl wr (.slice (some ⟨gs, 0, none⟩) j j) zs := by have := Sl.of_rd (cap := j) hrs (by omega); rw [hzsz] at this; exact this
      have ck := keys_same (.slice po j co) (.slice (some ⟨gs, 0, none⟩) j j) os.toArray zs wr HO.out.sl hss (by rw [hosz, hzsz]) (by omega) (keys_poppedL (by simpa using HPE.out) HPP.out.srt HSO.out)
      have cb := fun q => bag_any (.slice po j co) (.slice (some ⟨gs, 0, none⟩) j j) os.toArray zs (wr.drewN q) (OwnI.sl (HO.out.drewN q)) (hss.below (below_drewN (Below.refl _ _) q)) (by rw [hosz]; omega)
      rw [bagB_intro (by rw [hosz, hzsz]) (fun z => by have h1 := HPE.out.count_eq z; have h2 := HSO.out.st.perm.count_eq z; simp at h1 h2 ⊢; omega)] at cb
      clear hss hrs
      go_wp2_with fail
      refine ck.mono ?_
      rintro e w5 ⟨rfl, q, rfl⟩
      go_wp2_with fail
      refine (cb q).mono ?_
      rintro e w6 ⟨rfl, q6, hw6⟩
      have hb6 : Below wl.heap.size wl w6 := by rw [hw6]; exact below_drewN (below_drewN HB.out q) q6
      clear hw6
      go_wp2
      go_ret
      exact ⟨rfl, hbl.trans (hb6.mono hbl.size)⟩

theorem leanSorts_any (v v' : Value) (xs ys : Array (Int × Int)) (w : World) (h : Sl w v xs) (h' : Sl w v' ys) (hbig : xs.size ≤ 9223372036854775807) (hbig' : ys.size ≤ 9223372036854775807) (hgl : Glob w) :
    Calls Tryd.prog 6 #[v, v'] w fun e w' => e = .returned (.bool true) ∧ Below w.heap.size w w' := by
  obtain ⟨p, cap, rfl, hcap, hp⟩ := id h
  obtain ⟨p', cap', rfl, hcap', hp'⟩ := id h'
  by_cases h0 : wrong xs = 0
  · by_cases h0' : wrong ys = 0
    · by_cases h60 : 60 < xs.size + ys.size
      · exact leanSorts_C p p' _ cap _ cap' xs ys w (wrong_le h0) (wrong_le h0') rfl rfl h h' h0 h0' hgl h60
      · exact leanSorts_D p p' _ cap _ cap' xs ys w (wrong_le h0) (wrong_le h0') rfl rfl h h' h0 h0' hgl (by omega)
    · exact leanSorts_B p p' _ cap _ cap' w (fun w1 hb => (grown_good _ xs w1 (h.below hb) h0).mono fun e w' ⟨a, b, _, c, _, _, d⟩ => ⟨a, _, b, c, d⟩) (fun w1 hb => (grown_bad _ ys w1 (h'.below hb) hbig' h0').mono fun e w' ⟨a, b, c, d, e⟩ => ⟨a, b, c, d, e⟩)
  · refine leanSorts_A p p' _ cap _ cap' w (fun w1 hb => (grown_bad _ xs w1 (h.below hb) hbig h0).mono fun e w' ⟨a, b, c, d, e⟩ => ⟨a, b, c, d, e⟩) (fun w1 hb => ?_)
    by_cases h0' : wrong ys = 0
    · exact (grown_good _ ys w1 (h'.below hb) h0').mono fun e w' ⟨a, b, _, c, _, _, d⟩ => ⟨a, _, b, true, c, d⟩
    · exact (grown_bad _ ys w1 (h'.below hb) hbig' h0').mono fun e w' ⟨a, b, c, d, e⟩ => ⟨a, b, c, false, d, e⟩
#print axioms leanSorts_any
end Go.Proofs.YtoaabpoicacogaaDoor
