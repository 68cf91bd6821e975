/-
  The law BinoSorts, walked: popped one by one all come sorted.
-/
import Derived.Test.YtmkjalpgeljnkaaDoorPBag
import Derived.Test.YtmkjalpgeljnkaaDoorBothW
import Derived.Test.YtmkjalpgeljnkaaDoorKeysS
import Derived.Test.YtmkjalpgeljnkaaDoorSortW
import Derived.Test.YtmkjalpgeljnkaaDoorSMath
import Derived.Test.YtmkjalpgeljnkaaDoorTold
namespace Go.Proofs.YtmkjalpgeljnkaaDoor
open Go.RowKit Go.Sort Go.Proofs

/-- Of xs the items os were popped, one by one, and the heap g is left. -/
structure PopsB (xs : List (Int × Int)) (os : List (Int × Int)) (g : List TrL) : Prop where
  perm : (os ++ itemsH g).Perm xs
  ok : OkH g
  srt : os.Pairwise (fun x y => x.1 ≤ y.1)
  le : ∀ o ∈ os, ∀ d ∈ itemsH g, o.1 ≤ d.1
theorem PopsB.start {xs : List (Int × Int)} {g : List TrL} (h : (itemsH g).Perm xs) (hg : OkH g) : PopsB xs [] g := ⟨by simpa using h, hg, List.Pairwise.nil, fun _ h => by cases h⟩
theorem PopsB.pop {xs os : List (Int × Int)} {g g' : List TrL} {x : Int × Int} (h : PopsB xs os g) (ho : OkH g') (hp : (x :: itemsH g').Perm (itemsH g)) (hl : ∀ y ∈ itemsH g, x.1 ≤ y.1) : PopsB xs (os ++ [x]) g' := by
  have sub : ∀ d, d ∈ itemsH g' → d ∈ itemsH g := fun d hd => hp.mem_iff.1 (List.mem_cons_of_mem _ hd)
  refine ⟨?_, ho, ?_, ?_⟩
  · rw [List.append_assoc]
    exact (List.Perm.append_left os hp).trans h.perm
  · rw [List.pairwise_append]
    exact ⟨h.srt, List.pairwise_singleton _ _, fun a ha y hy => by rw [List.mem_singleton.1 hy]; exact h.le a ha _ (hp.mem_iff.1 List.mem_cons_self)⟩
  · intro o hq d hd
    rcases List.mem_append.1 hq with q | q
    · exact h.le o q d (sub d hd)
    · rw [List.mem_singleton.1 q]
      exact hl d (sub d hd)
/-- What is popped has the keys that a sort has. -/
theorem keys_poppedB {xs zs : Array (Int × Int)} {os : List (Int × Int)} (hp : os.Perm xs.toList) (hs : os.Pairwise (fun x y => x.1 ≤ y.1)) (h : Sorts xs zs) : ∀ i, i < os.toArray.size → os.toArray[i]!.1 = zs[i]!.1 := by
  have e : os.map (·.1) = zs.toList.map (·.1) :=
    perm_sorted_eq _ _ (List.pairwise_map.2 hs) (List.pairwise_map.2 (srt_pairwise h.srt)) ((hp.trans h.st.perm).map _)
  intro i hi
  have hi1 : i < os.length := by simpa using hi
  have hl : os.length = zs.size := by simpa using congrArg List.length e
  have hi2 : i < zs.size := by omega
  have q : (os.map (·.1))[i]? = (zs.toList.map (·.1))[i]? := by rw [e]
  rw [List.getElem?_map, List.getElem?_map, List.getElem?_eq_getElem hi1, List.getElem?_eq_getElem (by simpa using hi2)] at q
  rw [getElem!_pos _ i hi, getElem!_pos zs i hi2]
  simpa using q
theorem wrong_bothB {xs ys : Array (Int × Int)} (h : wrong xs = 0) (h' : wrong ys = 0) (h60 : xs.size + ys.size ≤ 60) : wrong (xs.toList ++ ys.toList).toArray = 0 := by
  have key : ∀ {xs : Array (Int × Int)}, wrong xs = 0 → anyOut xs = false := fun {xs} h => by
    have := wrong_le h
    unfold wrong at h
    rw [if_neg (by omega)] at h
    cases e : anyOut xs
    · rfl
    · rw [e] at h; simp at h
  have a1 := key h
  have a2 := key h'
  unfold wrong
  rw [if_neg (by simp; omega)]
  unfold anyOut at a1 a2 ⊢
  simp only [List.any_append, a1, a2]
  rfl

set_option maxHeartbeats 4000000 in
theorem binoSorts_A (p p' : Option Addr) (n cap n' cap' : Nat) (w : World)
    (C1 : Hid (∀ w1, Below w.heap.size w w1 → Calls Tryd.prog 19 #[.slice p n cap] w1 fun e w' => ∃ q m c, e = .returned (.tuple #[.slice q m c, .bool false]) ∧ Below w1.heap.size w1 w'))
    (C2 : Hid (∀ w1, Below w.heap.size w w1 → Calls Tryd.prog 19 #[.slice p' n' cap'] w1 fun e w' => ∃ q m c b, e = .returned (.tuple #[.slice q m c, .bool b]) ∧ Below w1.heap.size w1 w')) :
    Calls Tryd.prog 6 #[.slice p n cap, .slice p' n' cap'] w fun e w' => e = .returned (.bool true) ∧ Below w.heap.size w w' := by
  have c0 := binoFact_any w
  go_enter Tryd.func6, Tryd.ntmps6
  go_wp2_with fail
  refine c0.mono ?_
  rintro e w1 ⟨rfl, hb1⟩
  clear c0
  go_wp2_with fail
  refine (C1.out w1 hb1).mono ?_
  rintro e w2 ⟨q1, m1, c1, rfl, hb2'⟩
  have hb2 := hb1.trans (hb2'.mono hb1.size)
  clear hb2' hb1
  go_wp2_with fail
  refine (C2.out w2 hb2).mono ?_
  rintro e w3 ⟨q2, m2, c2, b, rfl, hb3'⟩
  have hb3 := hb2.trans (hb3'.mono hb2.size)
  clear hb3' hb2
  go_wp2
  go_ret
  exact ⟨rfl, hb3⟩
set_option maxHeartbeats 4000000 in
theorem binoSorts_B (p p' : Option Addr) (n cap n' cap' : Nat) (w : World)
    (C1 : Hid (∀ w1, Below w.heap.size w w1 → Calls Tryd.prog 19 #[.slice p n cap] w1 fun e w' => ∃ q m c, e = .returned (.tuple #[.slice q m c, .bool true]) ∧ Below w1.heap.size w1 w'))
    (C2 : Hid (∀ w1, Below w.heap.size w w1 → Calls Tryd.prog 19 #[.slice p' n' cap'] w1 fun e w' => ∃ q m c, e = .returned (.tuple #[.slice q m c, .bool false]) ∧ Below w1.heap.size w1 w')) :
    Calls Tryd.prog 6 #[.slice p n cap, .slice p' n' cap'] w fun e w' => e = .returned (.bool true) ∧ Below w.heap.size w w' := by
  have c0 := binoFact_any w
  go_enter Tryd.func6, Tryd.ntmps6
  go_wp2_with fail
  refine c0.mono ?_
  rintro e w1 ⟨rfl, hb1⟩
  clear c0
  go_wp2_with fail
  refine (C1.out w1 hb1).mono ?_
  rintro e w2 ⟨q1, m1, c1, rfl, hb2'⟩
  have hb2 := hb1.trans (hb2'.mono hb1.size)
  clear hb2' hb1
  go_wp2_with fail
  refine (C2.out w2 hb2).mono ?_
  rintro e w3 ⟨q2, m2, c2, rfl, hb3'⟩
  have hb3 := hb2.trans (hb3'.mono hb2.size)
  clear hb3' hb2
  go_wp2
  go_ret
  exact ⟨rfl, hb3⟩
set_option maxHeartbeats 8000000 in
set_option maxRecDepth 4000 in
theorem binoSorts_C (p p' : Option Addr) (n cap n' cap' : Nat) (xs ys : Array (Int × Int)) (w : World) (_hn : n ≤ 60) (_hn' : n' ≤ 60) (HN : Hid (xs.size = n)) (HN' : Hid (ys.size = n')) (HS : Hid (Sl w (.slice p n cap) xs)) (HS' : Hid (Sl w (.slice p' n' cap') ys)) (HW : Hid (wrong xs = 0)) (HW' : Hid (wrong ys = 0)) (hgl : Glob w) (h60 : 60 < n + n') :
    Calls Tryd.prog 6 #[.slice p n cap, .slice p' n' cap'] w fun e w' => e = .returned (.bool true) ∧ Below w.heap.size w w' := by
  have c0 := binoFact_any w
  go_enter Tryd.func6, Tryd.ntmps6
  go_wp2_with fail
  refine c0.mono ?_
  rintro e w1 ⟨rfl, hb1⟩
  clear c0
  go_wp2_with fail
  refine (planted_good _ xs w1 (HS.out.below hb1) HW.out).mono ?_
  rintro e w2 ⟨q1, l1, c1, g1, rfl, hs1, hg1, hb2'⟩
  rw [HN.out] at hg1
  have hb2 := hb1.trans (hb2'.mono hb1.size)
  have HS1 : Hid (HpAt w2 (.slice q1 l1 c1) (zH g1)) := hs1
  have HG1 : Hid (Plants xs n g1) := hg1
  clear hb2' hb1 hs1 hg1
  go_wp2_with fail
  refine (planted_good _ ys w2 (HS'.out.below hb2) HW'.out).mono ?_
  rintro e w3 ⟨q2, l2, c2, g2, rfl, hs2, hg2, hb3'⟩
  rw [HN'.out] at hg2
  have hb3 := hb2.trans (hb3'.mono hb2.size)
  have HA3 : Hid (HpAt w3 (.slice q1 l1 c1) (zH g1)) := HS1.out.below hb3'
  have HB3 : Hid (HpAt w3 (.slice q2 l2 c2) (zH g2)) := hs2
  have HG2 : Hid (Plants ys n' g2) := hg2
  clear hb3' hb2 hs2 hg2 HS1
  have cM := dMeld_bad _ _ _ _ 4 w3 HA3.out HB3.out HG1.out.ok.fit HG2.out.ok.fit (by unfold meldE; rw [if_pos (binoE_ok HG1.out.ok), if_pos (binoE_ok HG2.out.ok), if_pos (by rw [sizeZ_zH, sizeZ_zH, HG1.out.size, HG2.out.size]; exact h60)]) (by decide)
  go_wp2_with fail
  refine cM.mono ?_
  rintro e w4 ⟨rfl, hb4'⟩
  have hb4 := hb3.trans (hb4'.mono hb3.size)
  have cE := error_any 4 4 w4 (hgl.below hb4)
  clear hb4' cM
  go_wp2_with fail
  refine cE.mono ?_
  rintro e w5 ⟨rfl, hb5'⟩
  have hb5 := hb4.trans (hb5'.mono hb4.size)
  go_wp2
  go_ret
  exact ⟨rfl, hb5⟩
set_option maxHeartbeats 16000000 in
set_option maxRecDepth 4000 in
theorem binoSorts_D (p p' : Option Addr) (n cap n' cap' : Nat) (xs ys : Array (Int × Int)) (w : World) (_hn : n ≤ 60) (_hn' : n' ≤ 60) (HN : Hid (xs.size = n)) (HN' : Hid (ys.size = n')) (HS : Hid (Sl w (.slice p n cap) xs)) (HS' : Hid (Sl w (.slice p' n' cap') ys)) (HW : Hid (wrong xs = 0)) (HW' : Hid (wrong ys = 0)) (_hgl : Glob w) (h60 : n + n' ≤ 60) :
    Calls Tryd.prog 6 #[.slice p n cap, .slice p' n' cap'] w fun e w' => e = .returned (.bool true) ∧ Below w.heap.size w w' := by
  have c0 := binoFact_any w
  go_enter Tryd.func6, Tryd.ntmps6
  go_wp2_with fail
  refine c0.mono ?_
  rintro e w1 ⟨rfl, hb1⟩
  clear c0
  go_wp2_with fail
  refine (planted_good _ xs w1 (HS.out.below hb1) HW.out).mono ?_
  rintro e w2 ⟨q1, l1, c1, g1, rfl, hs1, hg1, hb2'⟩
  rw [HN.out] at hg1
  have hb2 := hb1.trans (hb2'.mono hb1.size)
  have HS1 : Hid (HpAt w2 (.slice q1 l1 c1) (zH g1)) := hs1
  have HG1 : Hid (Plants xs n g1) := hg1
  clear hb2' hb1 hs1 hg1
  go_wp2_with fail
  refine (planted_good _ ys w2 (HS'.out.below hb2) HW'.out).mono ?_
  rintro e w3 ⟨q2, l2, c2, g2, rfl, hs2, hg2, hb3'⟩
  rw [HN'.out] at hg2
  have hb3 := hb2.trans (hb3'.mono hb2.size)
  have HA3 : Hid (HpAt w3 (.slice q1 l1 c1) (zH g1)) := HS1.out.below hb3'
  have HB3 : Hid (HpAt w3 (.slice q2 l2 c2) (zH g2)) := hs2
  have HG2 : Hid (Plants ys n' g2) := hg2
  clear hb3' hb2 hs2 hg2 HS1
  have cM := dMeld_good _ _ g1 g2 w3 HA3.out HB3.out HG1.out.ok HG2.out.ok (by rw [HG1.out.size, HG2.out.size]; exact h60)
  have hmm := HG1.out.ok.meld HG2.out.ok (by rw [HG1.out.size, HG2.out.size]; exact h60)
  have HOK : Hid (OkH (meldH g1 g2)) := hmm.1
  have HZ : Hid ((itemsH (meldH g1 g2)).length = n + n') := by show _ = _; rw [hmm.2.length_eq, List.length_append, HG1.out.size, HG2.out.size]
  have HP : Hid ((itemsH (meldH g1 g2)).Perm (xs.toList ++ ys.toList)) := hmm.2.trans (List.Perm.append (HG1.out.items HN.out) (HG2.out.items HN'.out))
  clear hmm
  go_wp2_with fail
  refine cM.mono ?_
  rintro e w4 ⟨v4, rfl, ho4, hb4'⟩
  have hb4 := hb3.trans (hb4'.mono hb3.size)
  generalize meldH g1 g2 = M at HOK HZ HP ho4
  have HM0 : Hid (HpAt w4 v4 (zH M)) := ho4.heap
  obtain ⟨pm, cm, hv4⟩ := HM0.out.form
  rw [zH_len] at hv4
  subst hv4
  obtain ⟨NM, hNM⟩ : ∃ NM, M.length = NM := ⟨_, rfl⟩
  have HM : Hid (HpAt w4 (.slice pm NM cm) (zH M)) := by show HpAt _ _ _; rw [← hNM]; exact HM0.out
  have HNM : Hid (M.length = NM) := hNM
  have hNM60 : NM ≤ 60 := by rw [← hNM]; exact HOK.out.len_le
  rw [hNM]
  clear ho4 hb4' cM HA3 HB3 HG1 HG2 HM0 hNM
  obtain ⟨BB, hBB⟩ : ∃ BB, xs.toList ++ ys.toList = BB := ⟨_, rfl⟩
  have cB := (both_any p p' cap cap' n n' xs ys w4 (HS.out.below hb4) (HS'.out.below hb4) (by rw [HN.out, HN'.out]; omega))
  have HWB : Hid (wrong BB.toArray = 0) := by show _ = _; rw [← hBB]; exact wrong_bothB HW.out HW'.out (by rw [HN.out, HN'.out]; exact h60)
  rw [hBB] at cB
  have HPB : Hid ((itemsH M).Perm BB) := by show List.Perm _ _; rw [← hBB]; exact HP.out
  obtain ⟨N, hN⟩ : ∃ N, n + n' = N := ⟨_, rfl⟩
  have HBN : Hid (BB.length = N) := by show _ = _; rw [← hBB, ← hN]; simp [HN.out, HN'.out]
  rw [hN] at HZ h60
  clear HP hBB hN
  go_wp2_with fail
  refine cB.mono ?_
  rintro e w5 ⟨u5, rfl, ho5, hb5'⟩
  have hb5 := hb4.trans (hb5'.mono hb4.size)
  have HM5 : Hid (HpAt w5 (.slice pm NM cm) (zH M)) := HM.out.below hb5'
  have cS := sort_good u5 BB.toArray w5 ho5.sl HWB.out
  rw [List.size_toArray, HBN.out] at cS
  clear cB ho5 hb5' HM hb4
  go_wp2_with fail
  refine cS.mono ?_
  rintro e wl ⟨gs, zs, rfl, hrs, hso, hbl'⟩
  have hbl := hb5.trans (hbl'.mono hb5.size)
  have HMl : Hid (HpAt wl (.slice pm NM cm) (zH M)) := HM5.out.below hbl'
  have HRS : Hid (RdAt wl gs 0 zs) := hrs
  have HSO : Hid (Sorts BB.toArray zs) := hso
  clear cS hrs hso hbl' HM5 hb5
  go_wp2
  go_loopg [10, 14] N (fun gg vm vo wr => ∃ (k j lm cm co : Nat) (pm po : Option Addr), vm = .slice pm lm cm ∧ vo = .slice po j co ∧ j + k = N ∧ k ≤ gg ∧ ∃ (os : List (Int × Int)) (t : List TrL), Hid (os.length = j) ∧ Hid ((itemsH t).length = k) ∧ Hid (t.length = lm) ∧ Hid (OwnI wr wl.heap.size (.slice po j co) os) ∧ Hid (HpAt wr (.slice pm lm cm) (zH t)) ∧ Hid (PopsB BB os t) ∧ Hid (Below wl.heap.size wl wr))
  case atStart => exact ⟨N, 0, NM, cm, 0, pm, none, rfl, rfl, by omega, Nat.le_refl _, [], M, rfl, HZ, HNM, OwnI.nil _ _, HMl, PopsB.start HPB.out HOK.out, Below.refl _ _⟩
  case round =>
    obtain ⟨k, j, lm, cm, co, pm, po, rfl, rfl, hjk, hkg, os, t, HJ, HK, HLM, HO, HD, HPP, HB⟩ := hrel
    by_cases hlt : j < N
    · have hlz : (j : Int) < (N : Int) := by omega
      have htn : t ≠ [] := fun e => by have := HK.out; rw [e] at this; simp [itemsH] at this; omega
      obtain ⟨⟨x0, x1⟩, hRO, hRP, hRL, c⟩ := dPop_ok _ t wr HD.out HPP.out.ok htn
      have HP2 : Hid (PopsB BB (os ++ [(x0, x1)]) (popH t)) := HPP.out.pop hRO hRP hRL
      obtain ⟨m, rfl⟩ : ∃ m, k = m + 1 := ⟨k - 1, by omega⟩
      have HTZ : Hid ((itemsH (popH t)).length = m) := by show _ = _; have := hRP.length_eq; rw [List.length_cons, HK.out] at this; omega
      have hol : os.length ≤ 60 := by rw [HJ.out]; omega
      clear htn hRO hRP hRL
      go_wp2_with fail
      refine c.mono ?_
      rintro e w3 ⟨v3, rfl, ho3, hb3'⟩
      have hb3 := HB.out.trans (hb3'.mono HB.out.size)
      obtain ⟨p3, c3, hv3⟩ := ho3.heap.form
      obtain ⟨l3, hl3⟩ : ∃ l3, (zH (popH t)).length = l3 := ⟨_, rfl⟩
      rw [hl3] at hv3
      subst hv3
      have HL3 : Hid ((popH t).length = l3) := by show _ = _; rw [← zH_len]; exact hl3
      have HO3 : Hid (OwnI w3 wl.heap.size (.slice po j co) os) := HO.out.below hb3'
      have HE3 : Hid (NewH wr.heap.size w3 (.slice p3 l3 c3) (popH t)) := ho3
      have HLT : Hid (∀ q, (Value.slice po j co).ownBlock = some q → q < wr.heap.size) := fun q e => (World.ownsRow.lt HO.out q e).2
      have hB3 : wl.heap.size ≤ w3.heap.size := hb3.size
      clear c ho3 hb3' HO HD hl3
      go_wp2_with (first | (at_builtin; refine wpList_append_item rfl (.tmp 69) (.tmp 71) rfl wl.heap.size (.slice po j co) os (x0, x1) ⟨w3.heap.size + 1, 0, none⟩ 1 rfl ((HO3.out.alloc _).alloc _) rfl (by simp) (by simp [Addr.add]) (by omega) (by simp; omega) ?_; intro v' wa hA' hgA hkA))
      have hal : Below w3.heap.size w3 ((w3.alloc (.cells #[.int .i64 x0, .int .i64 x1] 24)).alloc (.cells #[.int .i64 x0, .int .i64 x1] 24)) := ((Below.refl _ _).alloc (Nat.le_refl _) _).alloc (by simp) _
      have hbq : Below wl.heap.size wl ((w3.alloc (.cells #[.int .i64 x0, .int .i64 x1] 24)).alloc (.cells #[.int .i64 x0, .int .i64 x1] 24)) := hb3.trans (hal.mono hB3)
      have HBA : Hid (Below wl.heap.size wl wa) := hbq.trans (below_of_grown ((HO3.out.alloc _).alloc _) hgA (Nat.le_refl _) (by simp; omega))
      have HEA : Hid (HpAt wa (.slice p3 l3 c3) (zH (popH t))) := ((HE3.out.below hal).kept hgA HLT.out).heap
      have HOA : Hid (OwnI wa wl.heap.size v' (os ++ [(x0, x1)])) := hA'
      obtain ⟨po', co', hv', _⟩ := hA'.sl
      rw [List.size_toArray, List.length_append, HJ.out] at hv'
      have hv2 : v' = .slice po' (j + 1) co' := hv'
      clear hv' hkA hgA hA' hbq HE3 HLT HO3 hb3 hal
      subst hv2
      go_roundg m
      case measure => omega
      case rel => exact ⟨m, j + 1, l3, c3, co', p3, po', rfl, rfl, by omega, Nat.le_refl _, os ++ [(x0, x1)], _, (show _ = _ by rw [List.length_append, HJ.out]; rfl), HTZ, HL3, HOA, HEA, HP2, HBA⟩
    · have hlz : ¬ (j : Int) < (N : Int) := by omega
      obtain rfl : k = 0 := by omega
      obtain rfl : j = N := by omega
      have HT0 : Hid (t = []) := by
        show t = []
        have h1 := HPP.out.ok.isH.len_le
        rw [HK.out] at h1
        exact List.eq_nil_of_length_eq_zero (by omega)
      obtain rfl : lm = 0 := by have := HLM.out; rw [HT0.out] at this; exact this.symm
      have HPE : Hid (os.Perm BB) := by show List.Perm _ _; have := HPP.out.perm; rw [HT0.out] at this; simpa [itemsH] using this
      have hzsz : zs.size = j := by rw [HSO.out.size, List.size_toArray]; exact HBN.out
      have hosz : os.toArray.size = j := by simpa using HJ.out
      have hrs := HRS.out.below HB.out HRS.out.1
      have hss : Sl wr (.slice (some ⟨gs, 0, none⟩) j j) zs := by have := Sl.of_rd (cap := j) hrs (by omega); rw [hzsz] at this; exact this
      have ck := keys_same (.slice po j co) (.slice (some ⟨gs, 0, none⟩) j j) os.toArray zs wr HO.out.sl hss (by rw [hosz, hzsz]) (by omega) (keys_poppedB (by simpa using HPE.out) HPP.out.srt HSO.out)
      have cb := fun q => bag_any (.slice po j co) (.slice (some ⟨gs, 0, none⟩) j j) os.toArray zs (wr.drewN q) (OwnI.sl (HO.out.drewN q)) (hss.below (below_drewN (Below.refl _ _) q)) (by rw [hosz]; omega)
      rw [bagB_intro (by rw [hosz, hzsz]) (fun z => by have h1 := HPE.out.count_eq z; have h2 := HSO.out.st.perm.count_eq z; simp at h1 h2 ⊢; omega)] at cb
      clear hss hrs
      go_wp2_with fail
      refine ck.mono ?_
      rintro e w5 ⟨rfl, q, rfl⟩
      go_wp2_with fail
      refine (cb q).mono ?_
      rintro e w6 ⟨rfl, q6, hw6⟩
      have hb6 : Below wl.heap.size wl w6 := by rw [hw6]; exact below_drewN (below_drewN HB.out q) q6
      clear hw6
      go_wp2
      go_ret
      exact ⟨rfl, hbl.trans (hb6.mono hbl.size)⟩

theorem binoSorts_any (v v' : Value) (xs ys : Array (Int × Int)) (w : World) (h : Sl w v xs) (h' : Sl w v' ys) (hbig : xs.size ≤ 9223372036854775807) (hbig' : ys.size ≤ 9223372036854775807) (hgl : Glob w) :
    Calls Tryd.prog 6 #[v, v'] w fun e w' => e = .returned (.bool true) ∧ Below w.heap.size w w' := by
  obtain ⟨p, cap, rfl, hcap, hp⟩ := id h
  obtain ⟨p', cap', rfl, hcap', hp'⟩ := id h'
  by_cases h0 : wrong xs = 0
  · by_cases h0' : wrong ys = 0
    · by_cases h60 : 60 < xs.size + ys.size
      · exact binoSorts_C p p' _ cap _ cap' xs ys w (wrong_le h0) (wrong_le h0') rfl rfl h h' h0 h0' hgl h60
      · exact binoSorts_D p p' _ cap _ cap' xs ys w (wrong_le h0) (wrong_le h0') rfl rfl h h' h0 h0' hgl (by omega)
    · exact binoSorts_B p p' _ cap _ cap' w (fun w1 hb => (planted_good _ xs w1 (h.below hb) h0).mono fun e w' ⟨a, m, b, _, c, _, _, d⟩ => ⟨a, m, b, c, d⟩) (fun w1 hb => (planted_bad _ ys w1 (h'.below hb) hbig' h0').mono fun e w' ⟨a, b, c, d, e⟩ => ⟨a, b, c, d, e⟩)
  · refine binoSorts_A p p' _ cap _ cap' w (fun w1 hb => (planted_bad _ xs w1 (h.below hb) hbig h0).mono fun e w' ⟨a, b, c, d, e⟩ => ⟨a, b, c, d, e⟩) (fun w1 hb => ?_)
    by_cases h0' : wrong ys = 0
    · exact (planted_good _ ys w1 (h'.below hb) h0').mono fun e w' ⟨a, m, b, _, c, _, _, d⟩ => ⟨a, m, b, true, c, d⟩
    · exact (planted_bad _ ys w1 (h'.below hb) hbig' h0').mono fun e w' ⟨a, b, c, d, e⟩ => ⟨a, b, c, false, d, e⟩
#print axioms binoSorts_any
end Go.Proofs.YtmkjalpgeljnkaaDoor
