/-
  Parts of package pick: what is below a key, what is it, what is above it.
-/
import Derived.Test.YtdpfijhkbhmkgaaDoorPkM
import Derived.Test.YtdpfijhkbhmkgaaDoorOwnA
import Derived.Test.YtdpfijhkbhmkgaaDoorCopy
namespace Go.Proofs.YtdpfijhkbhmkgaaDoor
open Go.RowKit Go.Sort Go.Proofs

/-- One of three lists grows. -/
theorem grow_three {w4 wr wa : World} {B : Nat} {va va' vb vc : Value} {az bz cz : List (Int × Int)} (o : Obj) (HA : OwnI wr B va az) (HB : OwnI wr B vb bz) (HC : OwnI wr B vc cz) (hab : Apart va vb) (hac : Apart va vc) (hbr : Below B w4 wr) (hB : B ≤ wr.heap.size)
    (hg : ((wr.alloc o).alloc o).grownBy wa va.ownBlock) (hbk : va'.ownBlock = va.ownBlock ∨ va'.ownBlock = some ((wr.alloc o).alloc o).heap.size) : OwnI wa B vb bz ∧ OwnI wa B vc cz ∧ Apart va' vb ∧ Apart va' vc ∧ Below B w4 wa := by
  obtain ⟨h1, h2, h3⟩ := grow_one o (HA.alloc o) (HB.alloc o) hab (hbr.alloc hB o) (by simp; omega) hg hbk
  obtain ⟨h4, h5, _⟩ := grow_one o (HA.alloc o) (HC.alloc o) hac (hbr.alloc hB o) (by simp; omega) hg hbk
  exact ⟨h1, h4, h2, h5, h3⟩

set_option maxHeartbeats 8000000 in
theorem parts_some (blk off N cap : Nat) (key : Int) (xs : Array (Int × Int)) (w : World) (h : RdAt w blk off xs) (hN : xs.size = N) (hcap : N ≤ cap) (h0 : wrong xs = 0) :
    Calls Tryd.prog 18 #[.slice (some ⟨blk, off, none⟩) N cap, .int .i64 key] w fun e w' => ∃ va vb vc, e = .returned (.tuple #[va, vb, vc, .nilIface]) ∧ OwnI w' w.heap.size va (xs.toList.filter (blwB key)) ∧ OwnI w' w.heap.size vb (xs.toList.filter (smeB key)) ∧ OwnI w' w.heap.size vc (xs.toList.filter (abvB key)) ∧ Below w.heap.size w w' := by
  have h60 := wrong_le h0
  have c1 := check_any _ xs w (Sl.of_rd (cap := cap) h (by omega)) (by omega)
  rw [h0, errV_zero, hN] at c1
  rw [hN] at h60
  have HX : Hid (RdAt w blk off xs) := h
  have HN : Hid (xs.size = N) := hN
  clear h hN h0
  go_enter Tryd.func18, Tryd.ntmps18
  go_wp2_with fail
  refine c1.mono ?_
  rintro e w1 ⟨rfl, hb1⟩
  clear c1
  go_wp2
  go_loopg [4, 5, 6, 18] N (fun gg va vb vc vi wr => ∃ i : Nat, vi = .int .i64 i ∧ i + gg = N ∧ OwnI wr w.heap.size va (pk (blwB key) xs i) ∧ OwnI wr w.heap.size vb (pk (smeB key) xs i) ∧ OwnI wr w.heap.size vc (pk (abvB key) xs i) ∧ Apart va vb ∧ Apart va vc ∧ Apart vb vc ∧ Below w.heap.size w wr)
  case atStart => exact ⟨0, rfl, by omega, by rw [pk_zero]; exact OwnI.nil _ _, by rw [pk_zero]; exact OwnI.nil _ _, by rw [pk_zero]; exact OwnI.nil _ _, Apart.nil _, Apart.nil _, Apart.nil _, hb1⟩
  case round =>
    obtain ⟨i, rfl, hg, HA, HB, HC, hab, hac, hbc, hbr⟩ := hrel
    by_cases hlt : i < N
    · have hlz : (i : Int) < (N : Int) := by omega
      obtain ⟨x0, x1, hx⟩ : ∃ x y, xs[i]! = (x, y) := ⟨_, _, rfl⟩
      obtain ⟨cx0, cx1⟩ := (RdAt.below HX.out hbr HX.out.1).2 i (by rw [HN.out]; exact hlt)
      rw [hx] at cx0 cx1
      have HXX : Hid (xs[i]! = (x0, x1)) := hx
      clear hx
      have hB4 : w.heap.size ≤ wr.heap.size := hbr.size
      rcases Int.lt_trichotomy x0 key with hk | hk | hk
      · obtain ⟨t1, t2, t3⟩ := tri_lt hk (x1 := x1)
        have EA : Hid _ := pk_in (by rw [HN.out]; exact hlt) HXX.out t1
        have EB : Hid _ := pk_out (by rw [HN.out]; exact hlt) HXX.out t2
        have EC : Hid _ := pk_out (by rw [HN.out]; exact hlt) HXX.out t3
        clear t1 t2 t3
        go_wp2_with (at_builtin; refine wpList_append_item rfl (.tmp 31) (.tmp 33) rfl w.heap.size u4 (pk (blwB key) xs i) (x0, x1) ⟨wr.heap.size + 1, 0, none⟩ 1 rfl ((HA.alloc _).alloc _) rfl (by simp) (by simp [Addr.add]) (by have := pk_len (blwB key) xs i; omega) (by simp; omega) ?_; intro vn wa hN' hgA hkA; obtain ⟨H1, H2, ap1, ap2, hbA⟩ := grow_three (.cells #[.int .i64 x0, .int .i64 x1] 30) HA HB HC hab hac hbr hB4 hgA hkA; clear hgA hkA)
        go_roundg (N - (i + 1))
        case measure => omega
        case rel => exact ⟨i + 1, by go_num, by omega, by rw [EA.out]; exact hN', by rw [EB.out]; exact H1, by rw [EC.out]; exact H2, ap1, ap2, hbc, hbA⟩
      · have hk1 : ¬ x0 < key := by omega
        have hk2 : ¬ key < x0 := by omega
        obtain ⟨t1, t2, t3⟩ := tri_eq hk (x1 := x1)
        have EA : Hid _ := pk_out (by rw [HN.out]; exact hlt) HXX.out t1
        have EB : Hid _ := pk_in (by rw [HN.out]; exact hlt) HXX.out t2
        have EC : Hid _ := pk_out (by rw [HN.out]; exact hlt) HXX.out t3
        clear t1 t2 t3 hk
        go_wp2_with (at_builtin; refine wpList_append_item rfl (.tmp 22) (.tmp 24) rfl w.heap.size u5 (pk (smeB key) xs i) (x0, x1) ⟨wr.heap.size + 1, 0, none⟩ 1 rfl ((HB.alloc _).alloc _) rfl (by simp) (by simp [Addr.add]) (by have := pk_len (smeB key) xs i; omega) (by simp; omega) ?_; intro vn wa hN' hgA hkA; obtain ⟨H1, H2, ap1, ap2, hbA⟩ := grow_three (.cells #[.int .i64 x0, .int .i64 x1] 30) HB HA HC hab.symm hbc hbr hB4 hgA hkA; clear hgA hkA)
        go_roundg (N - (i + 1))
        case measure => omega
        case rel => exact ⟨i + 1, by go_num, by omega, by rw [EA.out]; exact H1, by rw [EB.out]; exact hN', by rw [EC.out]; exact H2, ap1.symm, hac, ap2, hbA⟩
      · have hk1 : ¬ x0 < key := by omega
        obtain ⟨t1, t2, t3⟩ := tri_gt hk (x1 := x1)
        have EA : Hid _ := pk_out (by rw [HN.out]; exact hlt) HXX.out t1
        have EB : Hid _ := pk_out (by rw [HN.out]; exact hlt) HXX.out t2
        have EC : Hid _ := pk_in (by rw [HN.out]; exact hlt) HXX.out t3
        clear t1 t2 t3
        go_wp2_with (at_builtin; refine wpList_append_item rfl (.tmp 40) (.tmp 42) rfl w.heap.size u6 (pk (abvB key) xs i) (x0, x1) ⟨wr.heap.size + 1, 0, none⟩ 1 rfl ((HC.alloc _).alloc _) rfl (by simp) (by simp [Addr.add]) (by have := pk_len (abvB key) xs i; omega) (by simp; omega) ?_; intro vn wa hN' hgA hkA; obtain ⟨H1, H2, ap1, ap2, hbA⟩ := grow_three (.cells #[.int .i64 x0, .int .i64 x1] 30) HC HA HB hac.symm hbc.symm hbr hB4 hgA hkA; clear hgA hkA)
        go_roundg (N - (i + 1))
        case measure => omega
        case rel => exact ⟨i + 1, by go_num, by omega, by rw [EA.out]; exact H1, by rw [EB.out]; exact H2, by rw [EC.out]; exact hN', hab, ap1.symm, ap2.symm, hbA⟩
    · have hlz : ¬ (i : Int) < (N : Int) := by omega
      obtain rfl : i = N := by omega
      rw [pk_all _ _ _ HN.out] at HA HB HC
      go_wp2
      exact bodyPost_ret (by simp [results, Tryd.results18, go_sem]; try rfl) rfl ⟨_, _, _, rfl, HA, HB, HC, hbr⟩
set_option maxHeartbeats 2000000 in
theorem parts_none (p : Option Addr) (cap : Nat) (key : Int) (w : World) :
    Calls Tryd.prog 18 #[.slice p 0 cap, .int .i64 key] w fun e w' => e = .returned (.tuple #[.slice none 0 0, .slice none 0 0, .slice none 0 0, .nilIface]) ∧ Below w.heap.size w w' := by
  have c1 := check_any (.slice p 0 cap) #[] w ⟨p, cap, rfl, Nat.zero_le _, Or.inl rfl⟩ (by decide)
  rw [show wrong #[] = 0 by decide, errV_zero] at c1
  go_enter Tryd.func18, Tryd.ntmps18
  go_wp2_with fail
  refine c1.mono ?_
  rintro e w1 ⟨rfl, hb1⟩
  clear c1
  go_wp2
  go_loopg [4, 5, 6, 18] 0 (fun gg va vb vc vi wr => vi = .int .i64 0 ∧ va = .slice none 0 0 ∧ vb = .slice none 0 0 ∧ vc = .slice none 0 0 ∧ Below w.heap.size w wr)
  case atStart => exact ⟨rfl, rfl, rfl, rfl, hb1⟩
  case round =>
    obtain ⟨rfl, rfl, rfl, rfl, hbr⟩ := hrel
    go_wp2
    exact bodyPost_ret (by simp [results, Tryd.results18, go_sem]; try rfl) rfl ⟨rfl, hbr⟩
theorem parts_bad (v : Value) (key : Int) (xs : Array (Int × Int)) (w : World) (h : Sl w v xs) (hbig : xs.size ≤ 9223372036854775807) (k : Nat) (hk : wrong xs = k) (h0 : k ≠ 0) :
    Calls Tryd.prog 18 #[v, .int .i64 key] w fun e w' => e = .returned (.tuple #[.slice none 0 0, .slice none 0 0, .slice none 0 0, .iface 57 (.int .i64 k)]) ∧ Below w.heap.size w w' := by
  have hcon := check_any v xs w h hbig
  rw [hk, errV_pos h0] at hcon
  obtain ⟨p, cap, rfl, _⟩ := h
  clear hk h0
  go_enter Tryd.func18, Tryd.ntmps18
  go_wp2_with (go_at_call 23; refine hcon.mono ?_; rintro e w' ⟨rfl, hb⟩)
  exact bodyPost_ret (by simp [results, Tryd.results18, go_sem]; try rfl) rfl ⟨rfl, hb⟩
theorem parts_good (v : Value) (key : Int) (xs : Array (Int × Int)) (w : World) (h : Sl w v xs) (h0 : wrong xs = 0) :
    Calls Tryd.prog 18 #[v, .int .i64 key] w fun e w' => ∃ va vb vc, e = .returned (.tuple #[va, vb, vc, .nilIface]) ∧ OwnI w' w.heap.size va (xs.toList.filter (blwB key)) ∧ OwnI w' w.heap.size vb (xs.toList.filter (smeB key)) ∧ OwnI w' w.heap.size vc (xs.toList.filter (abvB key)) ∧ Below w.heap.size w w' := by
  obtain ⟨p, cap, rfl, hcap, hp⟩ := id h
  rcases hp with hp | ⟨blk, off, rfl, hr⟩
  · have e0 : xs = #[] := Array.eq_empty_of_size_eq_zero hp
    subst e0
    refine (parts_none p cap key w).mono ?_
    rintro e w' ⟨rfl, hb⟩
    exact ⟨_, _, _, rfl, OwnI.nil _ _, OwnI.nil _ _, OwnI.nil _ _, hb⟩
  · exact parts_some blk off xs.size cap key xs w hr rfl hcap h0
#print axioms parts_good
end Go.Proofs.YtdpfijhkbhmkgaaDoor
