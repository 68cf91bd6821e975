/-
  The law HeapSorts, walked: popped one by one all come sorted.
-/
import Derived.Test.YtcjfbenbdjlodaaKeysW
import Derived.Test.YtcjfbenbdjlodaaSMath
namespace Go.Proofs.Ytcjfbenbdjlodaa
open Go.RowKit Go.Sort Go.Proofs

theorem RdAt.kept {w w' : World} {blk off : Nat} {row : Option Nat} {d : Array (Int × Int)} (h : RdAt w blk off d) (hg : w.grownBy w' row) (hne : some blk ≠ row) : RdAt w' blk off d :=
  have hb := hg.block blk h.1 hne
  ⟨Nat.lt_of_lt_of_le h.1 hg.size, fun i hi => ⟨(World.cell?_of_block (a := ⟨blk, off + i * 2, none⟩) hb).trans (h.2 i hi).1, (World.cell?_of_block (a := ⟨blk, off + i * 2 + 1, none⟩) hb).trans (h.2 i hi).2⟩⟩
/-- What is popped has the keys that a sort has. -/
theorem keys_popped {xs ys : Array (Int × Int)} {os : List (Int × Int)} (hp : os.Perm xs.toList) (hs : os.Pairwise (fun x y => x.1 ≤ y.1)) (h : Sorts xs ys) : ∀ i, i < os.toArray.size → os.toArray[i]!.1 = ys[i]!.1 := by
  have e : os.map (·.1) = ys.toList.map (·.1) :=
    perm_sorted_eq _ _ (List.pairwise_map.2 hs) (List.pairwise_map.2 (srt_pairwise h.srt)) ((hp.trans h.st.perm).map _)
  intro i hi
  have hi1 : i < os.length := by simpa using hi
  have hl : os.length = ys.size := by simpa using congrArg List.length e
  have hi2 : i < ys.size := by omega
  have q : (os.map (·.1))[i]? = (ys.toList.map (·.1))[i]? := by rw [e]
  rw [List.getElem?_map, List.getElem?_map, List.getElem?_eq_getElem hi1, List.getElem?_eq_getElem (by simpa using hi2)] at q
  rw [getElem!_pos _ i hi, getElem!_pos ys i hi2]
  simpa using q

set_option maxHeartbeats 4000000 in
theorem heapSorts_A (p : Option Addr) (n cap k : Nat) (w : World) (C1 : Hid (∀ w1, Below w.heap.size w w1 → Calls Try.prog 8 #[.slice p n cap] w1 fun e w' => e = .returned (.tuple #[.slice none 0 0, .iface 48 (.int .i64 k)]) ∧ Below w1.heap.size w1 w')) :
    Calls Try.prog 4 #[.slice p n cap] w fun e w' => e = .returned (.bool true) ∧ Below w.heap.size w w' := by
  have c0 := heapFact_any w
  go_enter Try.func4, Try.ntmps4
  go_wp2_with fail
  refine c0.mono ?_
  rintro e w1 ⟨rfl, hb1⟩
  go_wp2_with fail
  refine (C1.out w1 hb1).mono ?_
  rintro e w2 ⟨rfl, hb2'⟩
  have hb2 := hb1.trans (hb2'.mono hb1.size)
  go_wp2
  go_ret
  exact ⟨rfl, hb2⟩

set_option maxHeartbeats 8000000 in
set_option maxRecDepth 4000 in
theorem heapSorts_B (p : Option Addr) (n cap : Nat) (xs : Array (Int × Int)) (w : World) (hn : n ≤ 60) (HN : Hid (xs.size = n)) (HS : Hid (Sl w (.slice p n cap) xs)) (H0 : Hid (wrong xs = 0))
    (C1 : Hid (∀ w1, Below w.heap.size w w1 → Calls Try.prog 8 #[.slice p n cap] w1 fun e w' => ∃ g, e = .returned (.tuple #[.slice (some ⟨g, 0, none⟩) n n, .nilIface]) ∧ RdAt w' g 0 (hmake xs) ∧ Below w1.heap.size w1 w'))
    (C2 : Hid (∀ w1, Below w.heap.size w w1 → Calls Try.prog 10 #[.slice p n cap] w1 fun e w' => ∃ g ys, e = .returned (.tuple #[.slice (some ⟨g, 0, none⟩) n n, .nilIface]) ∧ RdAt w' g 0 ys ∧ Sorts xs ys ∧ Below w1.heap.size w1 w')) :
    Calls Try.prog 4 #[.slice p n cap] w fun e w' => e = .returned (.bool true) ∧ Below w.heap.size w w' := by
  have c0 := heapFact_any w
  go_enter Try.func4, Try.ntmps4
  go_wp2_with fail
  refine c0.mono ?_
  rintro e w1 ⟨rfl, hb1⟩
  go_wp2_with fail
  refine (C1.out w1 hb1).mono ?_
  rintro e w2 ⟨g0, rfl, hrd, hb2'⟩
  have hb2 := hb1.trans (hb2'.mono hb1.size)
  have HRD : Hid (RdAt w2 g0 0 (hmake xs)) := hrd
  clear hrd hb2' hb1 C1 c0
  go_wp2
  go_loopg [4, 6] n (fun gg vm vo wr => ∃ (k j g co : Nat) (po : Option Addr), vm = .slice (some ⟨g, 0, none⟩) k k ∧ vo = .slice po j co ∧ j + k = n ∧ k ≤ gg ∧ ∃ (os : List (Int × Int)) (D : Array (Int × Int)), Hid (os.length = j) ∧ Hid (D.size = k) ∧ Hid (OwnI wr w.heap.size (.slice po j co) os) ∧ Hid (RdAt wr g 0 D) ∧ Hid ((Value.slice po j co).ownBlock ≠ some g) ∧ Hid (Pops xs os D) ∧ Hid (Below w.heap.size w wr))
  case atStart => exact ⟨n, 0, g0, 0, none, rfl, rfl, by omega, Nat.le_refl _, [], hmake xs, rfl, (show _ = _ by rw [hmake_size]; exact HN.out), OwnI.nil _ _, HRD, (show Value.ownBlock (.slice none 0 0) ≠ _ from fun h => by cases h), Pops.start, hb2⟩
  case round =>
    obtain ⟨k, j, g, co, po, rfl, rfl, hjk, hkg, os, D, HJ, HK, HO, HD, HA, HP, HB⟩ := hrel
    by_cases hlt : j < n
    · have hlz : (j : Int) < (n : Int) := by omega
      have hk0 : 0 < D.size := by rw [HK.out]; omega
      have c := heapPop_fresh (some ⟨g, 0, none⟩) k D wr (by rw [HK.out]; have := Sl.of_rd (cap := k) HD.out (by rw [HK.out]; exact Nat.le_refl _); rw [HK.out] at this; exact this) (HP.out.wrongO hk0 H0.out)
      obtain ⟨x0, x1, hx⟩ : ∃ x y, D[0]! = (x, y) := ⟨_, _, rfl⟩
      obtain ⟨m, rfl⟩ : ∃ m, k = m + 1 := ⟨k - 1, by omega⟩
      rw [HK.out, hx, Nat.add_sub_cancel] at c
      have HP2 : Hid (Pops xs (os ++ [(x0, x1)]) (hpop D)) := by show Pops _ _ _; rw [← hx]; exact HP.out.pop hk0
      have HDN : Hid ((hpop D).size = m) := by show _ = _; rw [hpop_size, HK.out]; rfl
      have hol : os.length ≤ 60 := by rw [HJ.out]; omega
      clear hx
      go_wp2_with fail
      refine c.mono ?_
      rintro e w3 ⟨g2, rfl, hrd2, hfr, hb3'⟩
      have hb3 := HB.out.trans (hb3'.mono HB.out.size)
      have HO3 : Hid (OwnI w3 w.heap.size (.slice po j co) os) := HO.out.below hb3'
      have HR3 : Hid (RdAt w3 g2 0 (hpop D)) := hrd2
      have HNB : Hid ((Value.slice po j co).ownBlock ≠ some g2) := fun h => by have := (World.ownsRow.lt HO.out g2 h).2; omega
      have hB3 : w.heap.size ≤ w3.heap.size := hb3.size
      clear c hrd2 hb3' HO HA HD
      go_wp2_with (first | (at_builtin; refine wpList_append_item rfl (.tmp 38) (.tmp 40) rfl w.heap.size (.slice po j co) os (x0, x1) ⟨w3.heap.size + 1, 0, none⟩ 1 rfl ((HO3.out.alloc _).alloc _) rfl (by simp) (by simp [Addr.add]) (by omega) (by simp; omega) ?_; intro v' wa hA' hgA hkA))
      have hbq : Below w.heap.size w ((w3.alloc (.cells #[.int .i64 x0, .int .i64 x1] 29)).alloc (.cells #[.int .i64 x0, .int .i64 x1] 29)) := (hb3.alloc hB3 _).alloc (by simp; omega) _
      have hba : Below w.heap.size w wa := hbq.trans (below_of_grown ((HO3.out.alloc _).alloc _) hgA (Nat.le_refl _) (by simp; omega))
      have HRA : Hid (RdAt wa g2 0 (hpop D)) := (((HR3.out.kept (World.grownBy_alloc _ _ none) (by simp)).kept (World.grownBy_alloc _ _ none) (by simp)).kept hgA (fun h => HNB.out h.symm))
      have HNA : Hid (v'.ownBlock ≠ some g2) := fun h => by
        rcases hkA with e | e
        · exact HNB.out (e ▸ h)
        · rw [e] at h
          have h1 := Option.some.inj h
          have h2 := HR3.out.1
          simp at h1; omega
      have HOA : Hid (OwnI wa w.heap.size v' (os ++ [(x0, x1)])) := hA'
      obtain ⟨po', co', hv'⟩ := hA'.form
      rw [List.length_append, HJ.out] at hv'
      have hv2 : v' = .slice po' (j + 1) co' := hv'
      clear hv' hkA hgA hA' hbq HR3 HNB HO3 hb3
      subst hv2
      go_roundg m
      case measure => omega
      case rel => exact ⟨m, j + 1, g2, co', po', rfl, rfl, by omega, Nat.le_refl _, os ++ [(x0, x1)], hpop D, (show _ = _ by rw [List.length_append, HJ.out]; rfl), HDN, HOA, HRA, HNA, HP2, hba⟩
    · have hlz : ¬ (j : Int) < (n : Int) := by omega
      obtain rfl : k = 0 := by omega
      have hjn : j = n := by omega
      have HD0 : Hid (D = #[]) := by show _ = _; exact Array.eq_empty_of_size_eq_zero HK.out
      have HPE : Hid (os.Perm xs.toList) := by show List.Perm _ _; have := HP.out.perm; rw [HD0.out] at this; simpa using this
      subst hjn
      go_wp2_with fail
      refine (C2.out wr HB.out).mono ?_
      rintro e w4 ⟨g4, ys, rfl, hrd4, hso, hb4'⟩
      have hb4 := HB.out.trans (hb4'.mono HB.out.size)
      have HO4 : Hid (OwnI w4 w.heap.size (.slice po j co) os) := HO.out.below hb4'
      have hysz : ys.size = j := by rw [hso.size]; exact HN.out
      have hosz : os.toArray.size = j := by simpa using HJ.out
      have ck := keys_same (.slice po j co) (.slice (some ⟨g4, 0, none⟩) j j) os.toArray ys w4 HO4.out.sl (by have := Sl.of_rd (cap := j) hrd4 (by omega); rw [hysz] at this; exact this) (by rw [hosz, hysz]) (by omega) (keys_popped HPE.out HP.out.srt hso)
      have cb := fun q => bag_any (.slice po j co) (.slice p j cap) os.toArray xs (w4.drewN q) (OwnI.sl (HO4.out.drewN q)) (HS.out.below (below_drewN hb4 q)) (by rw [hosz]; omega)
      rw [bagB_intro (by rw [hosz]; exact HN.out.symm) (fun z => by simpa using HPE.out.count_eq z)] at cb
      clear hrd4 hso hb4' C2
      go_wp2_with fail
      refine ck.mono ?_
      rintro e w5 ⟨rfl, q, rfl⟩
      go_wp2_with fail
      refine (cb q).mono ?_
      rintro e w6 ⟨rfl, q6, hw6⟩
      have hb6 : Below w.heap.size w w6 := by rw [hw6]; exact below_drewN (below_drewN hb4 q) q6
      clear hw6
      go_wp2
      go_ret
      exact ⟨rfl, hb6⟩

theorem heapSorts_any (v : Value) (xs : Array (Int × Int)) (w : World) (h : Sl w v xs) (hbig : xs.size ≤ 9223372036854775807) :
    Calls Try.prog 4 #[v] w fun e w' => e = .returned (.bool true) ∧ Below w.heap.size w w' := by
  obtain ⟨p, cap, rfl, hcap, hp⟩ := id h
  by_cases h0 : wrong xs = 0
  · exact heapSorts_B p xs.size cap xs w (wrong_le h0) rfl h h0 (fun w1 hb => heapMake_good _ xs w1 (h.below hb) h0) (fun w1 hb => sort_good _ xs w1 (h.below hb) h0)
  · exact heapSorts_A p _ cap _ w fun w1 hb => heapMake_bad _ xs w1 (h.below hb) hbig _ rfl h0
#print axioms heapSorts_any
end Go.Proofs.Ytcjfbenbdjlodaa
