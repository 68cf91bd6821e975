/-
  Texts that the proof leans on, packed: RefB6, BGood, BPop, RefB9.
-/
import Derived.Test.YtmkjalpgeljnkaaDoorPack2
import Derived.Deep.RegionHeld3

/-
  The document's heaps of trees: melding.
-/
namespace Go.Proofs.YtmkjalpgeljnkaaDoor
open Go.RowKit Go.Sort Go.Proofs

theorem new_row (W : World) (g : Nat) (hg : g = W.heap.size) (p : Option Addr) (n c : Nat) : ∀ j u, (ES.enc (p, n, c))[j]? = some u → (W.alloc (.cells #[.slice p n c] 35)).cell? ((⟨g, 0, none⟩ : Addr).add j) = some u := by
  subst hg
  intro j u hu
  match j, hu with
  | 0, hu => cases hu; simp [Addr.add]
  | j + 1, hu => simp [ES, encS] at hu
theorem info_row : (Tryd.prog.info? 35).map (fun i => (i.zero, i.size, i.bytes)) = some (some (.slice none 0 0), 1, 24) := by kernel_rfl
theorem TE.len {r : Nat} {l : List (Int × Int)} (h : TE r l) (hr : r ≤ 8) : l.length ≤ 256 := by
  rcases h with rfl | h
  · simp
  · rw [h.len]; exact Nat.pow_le_pow_right (show 0 < 2 by omega) hr
theorem meldTo_go {x y : Nat → List (Int × Int)} {n r : Nat} {c : List (Int × Int)} {o : List TrL} {c' : List (Int × Int)} (h1 : putR r (outD (pickL c (x r) (y r))) = o) (h2 : carD (pickL c (x r) (y r)) = c') : meldTo x y (n + 1) r c = o ++ meldTo x y n (r + 1) c' := by
  subst h1; subst h2; rfl

set_option maxHeartbeats 64000000 in
set_option maxRecDepth 8000 in
theorem binoMeld_some (pa pb : Option Addr) (na ca nb cb : Nat) (h1 h2 : List TrL) (F : Option Nat) (w0 w : World) (hna : na ≤ 100) (hnb : nb ≤ 100) (HNA : Hid (h1.length = na)) (HNB : Hid (h2.length = nb)) (HA : Hid (HpF w0 w (.slice pa na ca) h1)) (HB2 : Hid (HpF w0 w (.slice pb nb cb) h2)) (HW0 : Hid (Below w0.heap.size w0 w)) (HF0 : Hid (∀ g, F = some g → w0.heap.size ≤ g)) (HFW : Hid (∀ g, F = some g → g < w.heap.size))
    (HI1 : Hid (IsH h1)) (HI2 : Hid (IsH h2)) (HR1 : Hid (∀ t ∈ h1, t.1 < 8)) (HR2 : Hid (∀ t ∈ h2, t.1 < 8)) :
    Calls Tryd.prog 11 #[.slice pa na ca, .slice pb nb cb] w fun e w' => ∃ u, e = .returned u ∧ (∃ os, OwnE ET w' w.heap.size u os ∧ OutAt F w' u.ownBlock os (meldH h1 h2)) ∧ Below w.heap.size w w' := by
  obtain ⟨i0, hi, hz0, hz1, hz2⟩ := info_parts info_row
  have HI : Hid (Tryd.prog.info? 35 = some i0) := hi
  have HZ0 : Hid (i0.zero = some (.slice none 0 0)) := hz0
  have HZ1 : Hid (i0.size = 1) := hz1
  have HZ2 : Hid (i0.bytes = 24) := hz2
  clear hi hz0 hz1 hz2
  go_enter Tryd.func11, Tryd.ntmps11
  go_wp2_with (first | (at_make; refine wpList_make_full _ rfl (.const (.int .i64 8)) (.const (.int .i64 8)) 60 rfl w.heap.size 35 i0 (.slice none 0 0) 1 Tryd.underlying60 HI.out HZ0.out HZ1.out .i64 .i64 _ _ 8 rfl rfl rfl rfl (by rw [HZ2.out]; omega) (by unfold maxLen; omega) (Nat.le_refl _) ?_; intro w1 hown1 hgr1; have hb1 : Below w.heap.size w w1 := (Below.refl _ _).grown hgr1 (Nat.le_refl _) (fun _ e => by cases e); have HX1 : Hid (WrE ES w1 w.heap.size 0 (List.replicate 8 (none, 0, 0))) := (made_rows hown1 (by omega)).2; clear hown1 hgr1) | (at_make; refine wpList_make_full _ rfl (.const (.int .i64 8)) (.const (.int .i64 8)) 60 rfl w1.heap.size 35 i0 (.slice none 0 0) 1 Tryd.underlying60 HI.out HZ0.out HZ1.out .i64 .i64 _ _ 8 rfl rfl rfl rfl (by rw [HZ2.out]; omega) (by unfold maxLen; omega) (Nat.le_refl _) ?_; intro w2 hown2 hgr2; have hb2' : Below w1.heap.size w1 w2 := (Below.refl _ _).grown hgr2 (Nat.le_refl _) (fun _ e => by cases e); have HY2 : Hid (WrE ES w2 w1.heap.size 0 (List.replicate 8 (none, 0, 0))) := (made_rows hown2 (by omega)).2; have HX2 : Hid (WrE ES w2 w.heap.size 0 (List.replicate 8 (none, 0, 0))) := HX1.out.below hb2' HX1.out.lt; have hb2 := hb1.trans (hb2'.mono hb1.size); have hxy : w.heap.size < w1.heap.size := HX1.out.lt; clear hown2 hgr2 hb2' HX1))
  have HD : Hid (w1.heap.size = w1.heap.size) := rfl
  clear HD
  generalize w1.heap.size = gy at HY2 hxy ⊢
  clear hb1
  go_loopg [7] na (fun gg vi wr => ∃ (i : Nat) (dX : List SlV), vi = .int .i64 i ∧ i ≤ na ∧ na - i ≤ gg ∧ Hid (WrE ES wr w.heap.size 0 dX) ∧ Hid (WrE ES wr gy 0 (List.replicate 8 (none, 0, 0))) ∧ Hid (RowsAt w0 dX (digitH (h1.take i))) ∧ Hid (Below w.heap.size w wr))
  case atStart => exact ⟨0, _, rfl, Nat.zero_le _, by omega, HX2, HY2, RowsAt.start w0, hb2⟩
  case round =>
    obtain ⟨i, dX, rfl, hin, hg, HWX, HWY, HRX, HB⟩ := hrel
    by_cases hlt : i < na
    · have hlz : (i : Int) < (na : Int) := by omega
      obtain ⟨⟨r, l⟩, hx⟩ : ∃ x, h1[i]? = some x := ⟨h1[i]'(by rw [HNA.out]; omega), by simp⟩
      obtain ⟨blk, off, q, c, rfl, hblk, c0, c1, hsl⟩ := HA.out.tree hx
      have hr8 : r < 8 := HR1.out (r, l) (List.mem_of_getElem? hx)
      have hr8z : (r : Int) < 8 := by omega
      have t0 := (HB.out.cell (p := ⟨blk, off + i * 2, none⟩) hblk).trans c0
      have t1 := (HB.out.cell (p := ⟨blk, off + i * 2 + 1, none⟩) hblk).trans c1
      obtain ⟨s0, e0, _⟩ := HRX.out.2 r hr8
      obtain ⟨k0, k1⟩ := HWX.out.row e0
      have HRX' : Hid (RowsAt w0 (dX.set r (q, l.length, c)) (digitH (h1.take (i + 1)))) := HRX.out.set HI1.out.rise hx hsl
      have hB : w.heap.size ≤ wr.heap.size := HB.out.size
      have hgs : wr.grownBy ((wr.setCell ⟨w.heap.size, r, none⟩ (.slice q l.length c)).drew) (some w.heap.size) := gb_drewN (gb_setCell wr ⟨w.heap.size, r, none⟩ (.slice q l.length c)) 1
      have HB' : Hid (Below w.heap.size w ((wr.setCell ⟨w.heap.size, r, none⟩ (.slice q l.length c)).drew)) := below_gb HB.out hgs (by omega) hB
      have H1' : Hid (WrE ES ((wr.setCell ⟨w.heap.size, r, none⟩ (.slice q l.length c)).drew) w.heap.size 0 (dX.set r (q, l.length, c))) := (HWX.out.setRow (i := r) (by rw [HRX.out.1]; exact hr8) (q, l.length, c)).drewN 1
      have H2' : Hid (WrE ES ((wr.setCell ⟨w.heap.size, r, none⟩ (.slice q l.length c)).drew) gy 0 (List.replicate 8 (none, 0, 0))) := HWY.out.kept hgs (fun e => by have := Option.some.inj e; omega)
      generalize l.length = ln at *
      clear hx hsl e0 hgs c0 c1 HRX
      go_wp2_with fail
      go_region
      go_wp2
      go_roundg (na - (i + 1))
      case measure => omega
      case rel => exact ⟨i + 1, _, by go_num, by omega, Nat.le_refl _, H1', H2', HRX', HB'⟩
    · have hlz : ¬ (i : Int) < (na : Int) := by omega
      have HRE : Hid (RowsAt w0 dX (digitH h1)) := by show RowsAt _ _ _; have := HRX.out; rw [List.take_of_length_le (by rw [HNA.out]; omega)] at this; exact this
      clear HRX
      go_wp2
      have HREX : Hid (RowsAt w0 dX (digitH h1)) := HRE
      clear HRE
      go_loopg [8] nb (fun gg vi wr => ∃ (i : Nat) (dY : List SlV), vi = .int .i64 i ∧ i ≤ nb ∧ nb - i ≤ gg ∧ Hid (WrE ES wr gy 0 dY) ∧ Hid (WrE ES wr w.heap.size 0 dX) ∧ Hid (RowsAt w0 dY (digitH (h2.take i))) ∧ Hid (Below w.heap.size w wr))
      case atStart => exact ⟨0, _, rfl, Nat.zero_le _, by omega, HWY, HWX, RowsAt.start w0, HB⟩
      case round =>
        obtain ⟨i, dY, rfl, hin, hg, HWY, HWX, HRX, HB⟩ := hrel
        by_cases hlt : i < nb
        · have hlz : (i : Int) < (nb : Int) := by omega
          obtain ⟨⟨r, l⟩, hx⟩ : ∃ x, h2[i]? = some x := ⟨h2[i]'(by rw [HNB.out]; omega), by simp⟩
          obtain ⟨blk, off, q, c, rfl, hblk, c0, c1, hsl⟩ := HB2.out.tree hx
          have hr8 : r < 8 := HR2.out (r, l) (List.mem_of_getElem? hx)
          have hr8z : (r : Int) < 8 := by omega
          have t0 := (HB.out.cell (p := ⟨blk, off + i * 2, none⟩) hblk).trans c0
          have t1 := (HB.out.cell (p := ⟨blk, off + i * 2 + 1, none⟩) hblk).trans c1
          obtain ⟨s0, e0, _⟩ := HRX.out.2 r hr8
          obtain ⟨k0, k1⟩ := HWY.out.row e0
          have HRX' : Hid (RowsAt w0 (dY.set r (q, l.length, c)) (digitH (h2.take (i + 1)))) := HRX.out.set HI2.out.rise hx hsl
          have hB : w.heap.size ≤ wr.heap.size := HB.out.size
          have hgs : wr.grownBy ((wr.setCell ⟨gy, r, none⟩ (.slice q l.length c)).drew) (some gy) := gb_drewN (gb_setCell wr ⟨gy, r, none⟩ (.slice q l.length c)) 1
          have HB' : Hid (Below w.heap.size w ((wr.setCell ⟨gy, r, none⟩ (.slice q l.length c)).drew)) := below_gb HB.out hgs (by omega) hB
          have H1' : Hid (WrE ES ((wr.setCell ⟨gy, r, none⟩ (.slice q l.length c)).drew) gy 0 (dY.set r (q, l.length, c))) := (HWY.out.setRow (i := r) (by rw [HRX.out.1]; exact hr8) (q, l.length, c)).drewN 1
          have H2' : Hid (WrE ES ((wr.setCell ⟨gy, r, none⟩ (.slice q l.length c)).drew) w.heap.size 0 dX) := HWX.out.kept hgs (fun e => by have := Option.some.inj e; omega)
          generalize l.length = ln at *
          clear hx hsl e0 hgs c0 c1 HRX
          go_wp2_with fail
          go_region
          go_wp2
          go_roundg (nb - (i + 1))
          case measure => omega
          case rel => exact ⟨i + 1, _, by go_num, by omega, Nat.le_refl _, H1', H2', HRX', HB'⟩
        · have hlz : ¬ (i : Int) < (nb : Int) := by omega
          have HRE : Hid (RowsAt w0 dY (digitH h2)) := by show RowsAt _ _ _; have := HRX.out; rw [List.take_of_length_le (by rw [HNB.out]; omega)] at this; exact this
          clear HRX
          go_wp2
          obtain ⟨wl, hwl⟩ : ∃ wl : World, wl = wr := ⟨_, rfl⟩
          subst hwl
          have hlw : w.heap.size < wl.heap.size := HWX.out.lt
          have hly : gy < wl.heap.size := HWY.out.lt
          go_loopg [9, 10, 11] 8 (fun gg vo vc vi wr => ∃ (r no co nc cc : Nat) (po pc : Option Addr) (os : List (Int × SlV)) (hout : List TrL) (Lc : List (Int × Int)), vo = .slice po no co ∧ vc = .slice pc nc cc ∧ vi = .int .i64 r ∧ r ≤ 8 ∧ 8 - r ≤ gg ∧ no ≤ r ∧ Hid (os.length = no) ∧ Hid (Lc.length = nc) ∧ Hid (OwnE ET wr wl.heap.size (.slice po no co) os) ∧ Hid (OutAt F wr (Value.slice po no co).ownBlock os hout) ∧ Hid (SlB F wr (Value.slice po no co).ownBlock (.slice pc nc cc) Lc) ∧ Hid (TE r Lc) ∧ Hid (hout ++ meldTo (digitH h1) (digitH h2) (8 - r) r Lc = meldH h1 h2) ∧ Hid (Below wl.heap.size wl wr))
          case atStart => exact ⟨0, 0, 0, 0, 0, none, none, [], [], [], rfl, rfl, rfl, by omega, by omega, by omega, rfl, rfl, OwnE.nil ET _ _, OutAt.nil _ _ _, (show SlB _ _ _ _ _ from ⟨none, 0, rfl, Nat.le_refl _, Or.inl rfl⟩), Or.inl rfl, rfl, Below.refl _ _⟩
          case round =>
            obtain ⟨r, no, co, nc, cc, po, pc, os, hout, Lc, rfl, rfl, rfl, hr8, hgg, hno, HOL, HNc, HO, HOUTA, HSc, HTC, HEQ, HBR⟩ := hrel
            by_cases hlt8 : r < 8
            · have hr8z : (r : Int) < 8 := by omega
              have hBw0 : Below w.heap.size w wr := Below.trans HB.out (Below.mono HBR.out HB.out.size)
              have hBw : Below w0.heap.size w0 wr := Below.trans HW0.out (Below.mono hBw0 HW0.out.size)
              have HOB : Hid (∀ g, (Value.slice po no co).ownBlock = some g → w0.heap.size ≤ g) := fun g e => by have h3 := (World.ownsRow.lt HO.out g e).1; have h4 := HW0.out.size; omega
              have HFF : Hid (∀ g, F = some g → g < wl.heap.size) := fun g e => by have := HFW.out g e; omega
              obtain ⟨Lx, hLx⟩ : ∃ L, digitH h1 r = L := ⟨_, rfl⟩
              obtain ⟨Ly, hLy⟩ : ∃ L, digitH h2 r = L := ⟨_, rfl⟩
              obtain ⟨⟨px, nx, cx⟩, ex, hsx⟩ := HREX.out.2 r hlt8
              obtain ⟨⟨py, ny, cy⟩, ey, hsy⟩ := HRE.out.2 r hlt8
              have HTX : Hid (TE r Lx) := by show TE _ _; rw [← hLx]; exact digitH_te HI1.out r
              have HTY : Hid (TE r Ly) := by show TE _ _; rw [← hLy]; exact digitH_te HI2.out r
              rw [hLx] at hsx
              rw [hLy] at hsy
              have HSx : Hid (SlB F wr (Value.slice po no co).ownBlock (.slice px nx cx) Lx) := SlB.old hsx hBw HOB.out HF0.out
              have HSy : Hid (SlB F wr (Value.slice po no co).ownBlock (.slice py ny cy) Ly) := SlB.old hsy hBw HOB.out HF0.out
              have HNx : Hid (Lx.length = nx) := by obtain ⟨_, _, e, _⟩ := HSx.out; simp only [Value.slice.injEq] at e; exact e.2.1.symm
              have HNy : Hid (Ly.length = ny) := by obtain ⟨_, _, e, _⟩ := HSy.out; simp only [Value.slice.injEq] at e; exact e.2.1.symm
              have HMc : Hid (Lc.length ≤ 256) := HTC.out.len (by omega)
              have HMx : Hid (Lx.length ≤ 256) := HTX.out.len (by omega)
              have HMy : Hid (Ly.length ≤ 256) := HTY.out.len (by omega)
              have HCX : Hid (∀ W, Below wr.heap.size wr W → W.cell? ⟨w.heap.size, r, none⟩ = some (.slice px nx cx)) := fun W hb => ((Below.trans HBR.out (Below.mono hb HBR.out.size)).cell (p := ⟨w.heap.size, r, none⟩) hlw).trans (HWX.out.row ex).1
              have HCY : Hid (∀ W, Below wr.heap.size wr W → W.cell? ⟨gy, r, none⟩ = some (.slice py ny cy)) := fun W hb => ((Below.trans HBR.out (Below.mono hb HBR.out.size)).cell (p := ⟨gy, r, none⟩) hly).trans (HWY.out.row ey).1
              have cx0 := HCX.out wr (Below.refl _ _)
              have cy0 := HCY.out wr (Below.refl _ _)
              have HLX : Hid (digitH h1 r = Lx) := hLx
              have HLY : Hid (digitH h2 r = Ly) := hLy
              have hlwr : wl.heap.size ≤ wr.heap.size := HBR.out.size
              have HB0 : Hid (Below w.heap.size w wl) := HB
              clear hLx hLy ex ey hsx hsy hBw hBw0 HB
              have HB : Hid (Below wl.heap.size wl wr) := HBR
              clear HBR
              rcases Nat.eq_zero_or_pos nc with hc0 | hc0
              · rcases Nat.eq_zero_or_pos nx with hx0 | hx0
                · rcases Nat.eq_zero_or_pos ny with hy0 | hy0
                  · obtain rfl : nc = 0 := by omega
                    obtain rfl : nx = 0 := by omega
                    obtain rfl : ny = 0 := by omega
                    have HNE : Hid ((Lc = []) ∧ (Lx = []) ∧ (Ly = [])) := ⟨(List.eq_nil_of_length_eq_zero HNc.out), (List.eq_nil_of_length_eq_zero HNx.out), (List.eq_nil_of_length_eq_zero HNy.out)⟩
                    have HGO : Hid (hout ++ meldTo (digitH h1) (digitH h2) (8 - r) r Lc = (hout ++ []) ++ meldTo (digitH h1) (digitH h2) (8 - (r + 1)) (r + 1) ([])) := by
                      show _ = _
                      obtain ⟨e1, e2, e3⟩ := HNE.out
                      rw [show 8 - r = (8 - (r + 1)) + 1 by omega, meldTo_go (o := []) (c' := []) (by rw [HLX.out, HLY.out]; simp [pickL, optL, outD, putR, e1, e2, e3]) (by rw [HLX.out, HLY.out]; simp [pickL, optL, carD, e1, e2, e3]), List.append_assoc]
                    have HTE : Hid (TE (r + 1) ([])) := Or.inl rfl
                    go_wp2
                    have HOUT : Hid (OutAt F wr (Value.slice po no co).ownBlock os (hout ++ [])) := by show OutAt _ _ _ _ _; rw [List.append_nil]; exact HOUTA.out
                    go_roundg (8 - (r + 1))
                    case measure => omega
                    case rel =>
                      exact ⟨r + 1, no, co, 0, 0, po, none, os, hout ++ [], [], rfl, rfl, by go_num, by omega, Nat.le_refl _, by omega, (show _ = _ by simp [HOL.out]), rfl, HO, HOUT, (show SlB _ _ _ _ _ from ⟨none, 0, rfl, Nat.le_refl _, Or.inl rfl⟩), HTE, (show _ = _ from HGO.out.symm.trans HEQ.out), HB⟩
                  · obtain rfl : nc = 0 := by omega
                    obtain rfl : nx = 0 := by omega
                    have hzy : (0 : Int) < (ny : Int) := by omega
                    have HNE : Hid ((Lc = []) ∧ (Lx = []) ∧ (Ly ≠ [])) := ⟨(List.eq_nil_of_length_eq_zero HNc.out), (List.eq_nil_of_length_eq_zero HNx.out), (fun e => by have := HNy.out; rw [e] at this; simp only [List.length_nil] at this; omega)⟩
                    have HGO : Hid (hout ++ meldTo (digitH h1) (digitH h2) (8 - r) r Lc = (hout ++ [(r, Ly)]) ++ meldTo (digitH h1) (digitH h2) (8 - (r + 1)) (r + 1) ([])) := by
                      show _ = _
                      obtain ⟨e1, e2, e3⟩ := HNE.out
                      rw [show 8 - r = (8 - (r + 1)) + 1 by omega, meldTo_go (o := [(r, Ly)]) (c' := []) (by rw [HLX.out, HLY.out]; simp [pickL, optL, outD, putR, e1, e2, e3]) (by rw [HLX.out, HLY.out]; simp [pickL, optL, carD, e1, e2, e3]), List.append_assoc]
                    have HTE : Hid (TE (r + 1) ([])) := Or.inl rfl
                    go_wp2_with (first | (at_builtin; refine wpList_appendE ES rfl (.tmp 81) (.tmp 86) rfl wr.heap.size (.slice none 0 0) [] (py, ny, cy) ⟨wr.heap.size, 0, none⟩ 1 rfl (OwnE.nil ES _ _) rfl (new_row wr _ rfl _ _ _) (by simp) (by simp) ?_; intro v1 w1 hA hg _; have hb1 : Below wr.heap.size wr w1 := ((Below.refl _ _).alloc (Nat.le_refl _) _).trans (below_ownE (OwnE.nil ES _ _) hg (Nat.le_refl _) (by simp)); have HL1 : Hid (OwnE ES w1 wr.heap.size v1 [(py, ny, cy)]) := hA; clear hA hg; obtain ⟨g1, cp1, hv1, hgb1, hcp1, hrd1, _⟩ := HL1.out.some (n := 1) rfl (by omega); have HR1 : Hid (RdE ES w1 g1 0 [(py, ny, cy)]) := hrd1; clear hrd1; subst hv1; have cx1 := HCX.out w1 hb1; have cy1 := HCY.out w1 hb1; have q10 : w1.cell? ⟨g1, 0, none⟩ = some (.slice py ny cy) := (by have := HR1.out.row (i := 0) rfl; rw [Nat.zero_add] at this; exact this); have hs1 : wr.heap.size ≤ w1.heap.size := hb1.size; have hgl1 : g1 < w1.heap.size := HR1.out.1) | (at_builtin; refine wpList_appendE ET rfl (.tmp 92) (.tmp 98) rfl wl.heap.size (.slice po no co) os ((r : Int), py, ny, cy) ⟨w1.heap.size, 0, none⟩ 1 rfl ((HO.out.below hb1).alloc _) rfl (new_tree w1 _ rfl _ _ _ _) (by rw [HOL.out]; omega) (by simp; have := hb1.size; omega) ?_; intro vo' wo hAo hgo hko; have HAO : Hid (OwnE ET wo wl.heap.size vo' (os ++ [((r : Int), py, ny, cy)])) := hAo; have HGW : Hid ((w1.alloc (.cells #[.int .i64 r, .slice py ny cy] 37)).grownBy wo (Value.slice po no co).ownBlock) := hgo; have HKO : Hid (vo'.ownBlock = (Value.slice po no co).ownBlock ∨ vo'.ownBlock = some (w1.alloc (.cells #[.int .i64 r, .slice py ny cy] 37)).heap.size) := hko; clear hAo hgo hko; obtain ⟨po', co', hvo⟩ := HAO.out.form; rw [List.length_append, HOL.out] at hvo; have hvo' : vo' = .slice po' (no + 1) co' := hvo; clear hvo; subst hvo'; have hbal : Below wr.heap.size wr (w1.alloc (.cells #[.int .i64 r, .slice py ny cy] 37)) := hb1.alloc hb1.size _; have hso : wr.heap.size ≤ wo.heap.size := Nat.le_trans hbal.size HGW.out.size; have HGN : Hid (some g1 ≠ (Value.slice po no co).ownBlock) := (fun e => by have h1 := (World.ownsRow.lt HO.out g1 e.symm).2; omega); have hglo : g1 < wo.heap.size := Nat.lt_of_lt_of_le (show g1 < (w1.alloc (.cells #[.int .i64 r, .slice py ny cy] 37)).heap.size by simp; omega) HGW.out.size; have o0 : wo.cell? ⟨g1, 0, none⟩ = some (.slice py ny cy) := (World.cell?_of_block (a := ⟨g1, 0, none⟩) (HGW.out.block g1 (by simp; omega) HGN.out)).trans (((Below.refl w1.heap.size w1).alloc (Nat.le_refl _) _).cell (p := ⟨g1, 0, none⟩) hgl1 |>.trans q10)))
                    have HBO : Hid (Below wl.heap.size wl wo) := (HB.out.trans (Below.mono hbal HB.out.size)).trans (below_ownE ((HO.out.below hb1).alloc _) HGW.out (Nat.le_refl _) (by simp; have := HB.out.size; have := hb1.size; omega))
                    have HOUT : Hid (OutAt F wo (Value.slice po' (no + 1) co').ownBlock (os ++ [((r : Int), py, ny, cy)]) (hout ++ [(r, Ly)])) := by
                      have ho1 := (HOUTA.out.below hbal).kept HGW.out HKO.out
                      exact ho1.snoc (s := (py, ny, cy)) ((HSy.out.below hbal).kept HGW.out HKO.out)
                    have HSy' : Hid (SlB F wo (Value.slice po' (no + 1) co').ownBlock (.slice py ny cy) Ly) := (HSy.out.below hbal).kept HGW.out HKO.out
                    go_roundg (8 - (r + 1))
                    case measure => omega
                    case rel =>
                      exact ⟨r + 1, no + 1, co', 0, 0, po', none, (os ++ [((r : Int), py, ny, cy)]), hout ++ [(r, Ly)], [], rfl, rfl, by go_num, by omega, Nat.le_refl _, by omega, (show _ = _ by simp [HOL.out]), rfl, HAO, HOUT, (show SlB _ _ _ _ _ from ⟨none, 0, rfl, Nat.le_refl _, Or.inl rfl⟩), HTE, (show _ = _ from HGO.out.symm.trans HEQ.out), HBO⟩
                · rcases Nat.eq_zero_or_pos ny with hy0 | hy0
                  · obtain rfl : nc = 0 := by omega
                    have hzx : (0 : Int) < (nx : Int) := by omega
                    obtain rfl : ny = 0 := by omega
                    have HNE : Hid ((Lc = []) ∧ (Lx ≠ []) ∧ (Ly = [])) := ⟨(List.eq_nil_of_length_eq_zero HNc.out), (fun e => by have := HNx.out; rw [e] at this; simp only [List.length_nil] at this; omega), (List.eq_nil_of_length_eq_zero HNy.out)⟩
                    have HGO : Hid (hout ++ meldTo (digitH h1) (digitH h2) (8 - r) r Lc = (hout ++ [(r, Lx)]) ++ meldTo (digitH h1) (digitH h2) (8 - (r + 1)) (r + 1) ([])) := by
                      show _ = _
                      obtain ⟨e1, e2, e3⟩ := HNE.out
                      rw [show 8 - r = (8 - (r + 1)) + 1 by omega, meldTo_go (o := [(r, Lx)]) (c' := []) (by rw [HLX.out, HLY.out]; simp [pickL, optL, outD, putR, e1, e2, e3]) (by rw [HLX.out, HLY.out]; simp [pickL, optL, carD, e1, e2, e3]), List.append_assoc]
                    have HTE : Hid (TE (r + 1) ([])) := Or.inl rfl
                    go_wp2_with (first | (at_builtin; refine wpList_appendE ES rfl (.tmp 68) (.tmp 73) rfl wr.heap.size (.slice none 0 0) [] (px, nx, cx) ⟨wr.heap.size, 0, none⟩ 1 rfl (OwnE.nil ES _ _) rfl (new_row wr _ rfl _ _ _) (by simp) (by simp) ?_; intro v1 w1 hA hg _; have hb1 : Below wr.heap.size wr w1 := ((Below.refl _ _).alloc (Nat.le_refl _) _).trans (below_ownE (OwnE.nil ES _ _) hg (Nat.le_refl _) (by simp)); have HL1 : Hid (OwnE ES w1 wr.heap.size v1 [(px, nx, cx)]) := hA; clear hA hg; obtain ⟨g1, cp1, hv1, hgb1, hcp1, hrd1, _⟩ := HL1.out.some (n := 1) rfl (by omega); have HR1 : Hid (RdE ES w1 g1 0 [(px, nx, cx)]) := hrd1; clear hrd1; subst hv1; have cx1 := HCX.out w1 hb1; have cy1 := HCY.out w1 hb1; have q10 : w1.cell? ⟨g1, 0, none⟩ = some (.slice px nx cx) := (by have := HR1.out.row (i := 0) rfl; rw [Nat.zero_add] at this; exact this); have hs1 : wr.heap.size ≤ w1.heap.size := hb1.size; have hgl1 : g1 < w1.heap.size := HR1.out.1) | (at_builtin; refine wpList_appendE ET rfl (.tmp 92) (.tmp 98) rfl wl.heap.size (.slice po no co) os ((r : Int), px, nx, cx) ⟨w1.heap.size, 0, none⟩ 1 rfl ((HO.out.below hb1).alloc _) rfl (new_tree w1 _ rfl _ _ _ _) (by rw [HOL.out]; omega) (by simp; have := hb1.size; omega) ?_; intro vo' wo hAo hgo hko; have HAO : Hid (OwnE ET wo wl.heap.size vo' (os ++ [((r : Int), px, nx, cx)])) := hAo; have HGW : Hid ((w1.alloc (.cells #[.int .i64 r, .slice px nx cx] 37)).grownBy wo (Value.slice po no co).ownBlock) := hgo; have HKO : Hid (vo'.ownBlock = (Value.slice po no co).ownBlock ∨ vo'.ownBlock = some (w1.alloc (.cells #[.int .i64 r, .slice px nx cx] 37)).heap.size) := hko; clear hAo hgo hko; obtain ⟨po', co', hvo⟩ := HAO.out.form; rw [List.length_append, HOL.out] at hvo; have hvo' : vo' = .slice po' (no + 1) co' := hvo; clear hvo; subst hvo'; have hbal : Below wr.heap.size wr (w1.alloc (.cells #[.int .i64 r, .slice px nx cx] 37)) := hb1.alloc hb1.size _; have hso : wr.heap.size ≤ wo.heap.size := Nat.le_trans hbal.size HGW.out.size; have HGN : Hid (some g1 ≠ (Value.slice po no co).ownBlock) := (fun e => by have h1 := (World.ownsRow.lt HO.out g1 e.symm).2; omega); have hglo : g1 < wo.heap.size := Nat.lt_of_lt_of_le (show g1 < (w1.alloc (.cells #[.int .i64 r, .slice px nx cx] 37)).heap.size by simp; omega) HGW.out.size; have o0 : wo.cell? ⟨g1, 0, none⟩ = some (.slice px nx cx) := (World.cell?_of_block (a := ⟨g1, 0, none⟩) (HGW.out.block g1 (by simp; omega) HGN.out)).trans (((Below.refl w1.heap.size w1).alloc (Nat.le_refl _) _).cell (p := ⟨g1, 0, none⟩) hgl1 |>.trans q10)))
                    have HBO : Hid (Below wl.heap.size wl wo) := (HB.out.trans (Below.mono hbal HB.out.size)).trans (below_ownE ((HO.out.below hb1).alloc _) HGW.out (Nat.le_refl _) (by simp; have := HB.out.size; have := hb1.size; omega))
                    have HOUT : Hid (OutAt F wo (Value.slice po' (no + 1) co').ownBlock (os ++ [((r : Int), px, nx, cx)]) (hout ++ [(r, Lx)])) := by
                      have ho1 := (HOUTA.out.below hbal).kept HGW.out HKO.out
                      exact ho1.snoc (s := (px, nx, cx)) ((HSx.out.below hbal).kept HGW.out HKO.out)
                    have HSx' : Hid (SlB F wo (Value.slice po' (no + 1) co').ownBlock (.slice px nx cx) Lx) := (HSx.out.below hbal).kept HGW.out HKO.out
                    go_roundg (8 - (r + 1))
                    case measure => omega
                    case rel =>
                      exact ⟨r + 1, no + 1, co', 0, 0, po', none, (os ++ [((r : Int), px, nx, cx)]), hout ++ [(r, Lx)], [], rfl, rfl, by go_num, by omega, Nat.le_refl _, by omega, (show _ = _ by simp [HOL.out]), rfl, HAO, HOUT, (show SlB _ _ _ _ _ from ⟨none, 0, rfl, Nat.le_refl _, Or.inl rfl⟩), HTE, (show _ = _ from HGO.out.symm.trans HEQ.out), HBO⟩
                  · obtain rfl : nc = 0 := by omega
                    have hzx : (0 : Int) < (nx : Int) := by omega
                    have hzy : (0 : Int) < (ny : Int) := by omega
                    have HNE : Hid ((Lc = []) ∧ (Lx ≠ []) ∧ (Ly ≠ [])) := ⟨(List.eq_nil_of_length_eq_zero HNc.out), (fun e => by have := HNx.out; rw [e] at this; simp only [List.length_nil] at this; omega), (fun e => by have := HNy.out; rw [e] at this; simp only [List.length_nil] at this; omega)⟩
                    have HGO : Hid (hout ++ meldTo (digitH h1) (digitH h2) (8 - r) r Lc = (hout ++ []) ++ meldTo (digitH h1) (digitH h2) (8 - (r + 1)) (r + 1) (linkL Lx Ly)) := by
                      show _ = _
                      obtain ⟨e1, e2, e3⟩ := HNE.out
                      rw [show 8 - r = (8 - (r + 1)) + 1 by omega, meldTo_go (o := []) (c' := linkL Lx Ly) (by rw [HLX.out, HLY.out]; simp [pickL, optL, outD, putR, e1, e2, e3]) (by rw [HLX.out, HLY.out]; simp [pickL, optL, carD, e1, e2, e3]), List.append_assoc]
                    have HTE : Hid (TE (r + 1) (linkL Lx Ly)) := (by show TE _ _; obtain ⟨e1, e2, e3⟩ := HNE.out; obtain ⟨t1, t2, _⟩ := pick_step HTC.out HTX.out HTY.out; simpa [pickL, optL, carD, e1, e2, e3] using t2)
                    go_wp2_with (first | (at_builtin; refine wpList_appendE ES rfl (.tmp 68) (.tmp 73) rfl wr.heap.size (.slice none 0 0) [] (px, nx, cx) ⟨wr.heap.size, 0, none⟩ 1 rfl (OwnE.nil ES _ _) rfl (new_row wr _ rfl _ _ _) (by simp) (by simp) ?_; intro v1 w1 hA hg _; have hb1 : Below wr.heap.size wr w1 := ((Below.refl _ _).alloc (Nat.le_refl _) _).trans (below_ownE (OwnE.nil ES _ _) hg (Nat.le_refl _) (by simp)); have HL1 : Hid (OwnE ES w1 wr.heap.size v1 [(px, nx, cx)]) := hA; clear hA hg; obtain ⟨g1, cp1, hv1, hgb1, hcp1, hrd1, _⟩ := HL1.out.some (n := 1) rfl (by omega); have HR1 : Hid (RdE ES w1 g1 0 [(px, nx, cx)]) := hrd1; clear hrd1; subst hv1; have cx1 := HCX.out w1 hb1; have cy1 := HCY.out w1 hb1; have q10 : w1.cell? ⟨g1, 0, none⟩ = some (.slice px nx cx) := (by have := HR1.out.row (i := 0) rfl; rw [Nat.zero_add] at this; exact this); have hs1 : wr.heap.size ≤ w1.heap.size := hb1.size; have hgl1 : g1 < w1.heap.size := HR1.out.1) | (at_builtin; refine wpList_appendE ES rfl (.tmp 81) (.tmp 86) rfl wr.heap.size (.slice (some ⟨g1, 0, none⟩) 1 cp1) [(px, nx, cx)] (py, ny, cy) ⟨w1.heap.size, 0, none⟩ 1 rfl (HL1.out.alloc _) rfl (new_row w1 _ rfl _ _ _) (by simp) (by simp; have := hb1.size; omega) ?_; intro v2 w2 hA hg _; have hb2 : Below wr.heap.size wr w2 := (hb1.alloc hb1.size _).trans (below_ownE (HL1.out.alloc _) hg (Nat.le_refl _) (by simp; have := hb1.size; omega)); have HL2 : Hid (OwnE ES w2 wr.heap.size v2 [(px, nx, cx), (py, ny, cy)]) := hA; clear hA hg; obtain ⟨g2, cp2, hv2, hgb2, hcp2, hrd2, _⟩ := HL2.out.some (n := 2) rfl (by omega); have HR2 : Hid (RdE ES w2 g2 0 [(px, nx, cx), (py, ny, cy)]) := hrd2; clear hrd2; subst hv2; have cx2 := HCX.out w2 hb2; have cy2 := HCY.out w2 hb2; have q20 : w2.cell? ⟨g2, 0, none⟩ = some (.slice px nx cx) := (by have := HR2.out.row (i := 0) rfl; rw [Nat.zero_add] at this; exact this); have q21 : w2.cell? ⟨g2, 1, none⟩ = some (.slice py ny cy) := (by have := HR2.out.row (i := 1) rfl; rw [Nat.zero_add] at this; exact this); have hs2 : wr.heap.size ≤ w2.heap.size := hb2.size; have hgl2 : g2 < w2.heap.size := HR2.out.1))
                    have HBO : Hid (Below wl.heap.size wl w2) := HB.out.trans (Below.mono hb2 HB.out.size)
                    have HAO : Hid (OwnE ET w2 wl.heap.size (.slice po no co) os) := HO.out.below hb2
                    have HOUT : Hid (OutAt F w2 (Value.slice po no co).ownBlock os (hout ++ [])) := by show OutAt _ _ _ _ _; rw [List.append_nil]; exact HOUTA.out.below hb2
                    have HSx' : Hid (SlB F w2 (Value.slice po no co).ownBlock (.slice px nx cx) Lx) := HSx.out.below hb2
                    have HSy' : Hid (SlB F w2 (Value.slice po no co).ownBlock (.slice py ny cy) Ly) := HSy.out.below hb2
                    have hne : Lx ≠ [] ∧ Ly ≠ [] := by obtain ⟨e1, e2, e3⟩ := HNE.out; exact ⟨by assumption, by assumption⟩
                    have HNE2 : Hid (Lx ≠ [] ∧ Ly ≠ []) := hne
                    clear hne
                    have hk2 : IntKind.i64.wrap ((2 : Int) - 2) = 0 := by decide
                    have hk1 : IntKind.i64.wrap ((2 : Int) - 1) = 1 := by decide
                    go_region_with (first | (go_at_call 33; refine (link_any _ _ Lx Ly _ HNE2.out.1 HNE2.out.2 (by have := HMx.out; omega) (by have := HMy.out; omega) ?_ ?_).mono ?_; (exact (HSx'.out.below (below_drewN (Below.refl _ _) 1)).sl); (exact (HSy'.out.below (below_drewN (Below.refl _ _) 1)).sl); rintro e wz ⟨uz, rfl, hoz, hbz'⟩; have hbz : Below w2.heap.size w2 wz := (below_drewN (Below.refl _ _) 1).trans hbz'; have HZ : Hid (OwnI wz w2.heap.size uz (linkL Lx Ly)) := hoz; clear hoz hbz'))
                    all_goals
                      go_wp2
                      go_roundg (8 - (r + 1))
                      case measure => omega
                      case rel =>
                        have hf : SlB F wz (Value.slice po (no) co).ownBlock uz (linkL Lx Ly) := SlB.fresh HZ.out (fun g e => (World.ownsRow.lt HAO.out g e).2) fun g e => (by have := HFF.out g e; have := HBO.out.size; omega)
                        obtain ⟨pz, cz, hz, _⟩ := id hf
                        subst hz
                        exact ⟨r + 1, no, co, _, cz, po, pz, os, hout ++ [], linkL Lx Ly, rfl, rfl, by go_num, by omega, Nat.le_refl _, by omega, (show _ = _ by simp [HOL.out]), rfl, HAO.out.below hbz, HOUT.out.below hbz, hf, HTE, (show _ = _ from HGO.out.symm.trans HEQ.out), HBO.out.trans (Below.mono hbz HBO.out.size)⟩
              · rcases Nat.eq_zero_or_pos nx with hx0 | hx0
                · rcases Nat.eq_zero_or_pos ny with hy0 | hy0
                  · have hzc : (0 : Int) < (nc : Int) := by omega
                    obtain rfl : nx = 0 := by omega
                    obtain rfl : ny = 0 := by omega
                    have HNE : Hid ((Lc ≠ []) ∧ (Lx = []) ∧ (Ly = [])) := ⟨(fun e => by have := HNc.out; rw [e] at this; simp only [List.length_nil] at this; omega), (List.eq_nil_of_length_eq_zero HNx.out), (List.eq_nil_of_length_eq_zero HNy.out)⟩
                    have HGO : Hid (hout ++ meldTo (digitH h1) (digitH h2) (8 - r) r Lc = (hout ++ [(r, Lc)]) ++ meldTo (digitH h1) (digitH h2) (8 - (r + 1)) (r + 1) ([])) := by
                      show _ = _
                      obtain ⟨e1, e2, e3⟩ := HNE.out
                      rw [show 8 - r = (8 - (r + 1)) + 1 by omega, meldTo_go (o := [(r, Lc)]) (c' := []) (by rw [HLX.out, HLY.out]; simp [pickL, optL, outD, putR, e1, e2, e3]) (by rw [HLX.out, HLY.out]; simp [pickL, optL, carD, e1, e2, e3]), List.append_assoc]
                    have HTE : Hid (TE (r + 1) ([])) := Or.inl rfl
                    go_wp2_with (first | (at_builtin; refine wpList_appendE ES rfl (.tmp 58) (.tmp 60) rfl wr.heap.size (.slice none 0 0) [] (pc, nc, cc) ⟨wr.heap.size, 0, none⟩ 1 rfl (OwnE.nil ES _ _) rfl (new_row wr _ rfl _ _ _) (by simp) (by simp) ?_; intro v1 w1 hA hg _; have hb1 : Below wr.heap.size wr w1 := ((Below.refl _ _).alloc (Nat.le_refl _) _).trans (below_ownE (OwnE.nil ES _ _) hg (Nat.le_refl _) (by simp)); have HL1 : Hid (OwnE ES w1 wr.heap.size v1 [(pc, nc, cc)]) := hA; clear hA hg; obtain ⟨g1, cp1, hv1, hgb1, hcp1, hrd1, _⟩ := HL1.out.some (n := 1) rfl (by omega); have HR1 : Hid (RdE ES w1 g1 0 [(pc, nc, cc)]) := hrd1; clear hrd1; subst hv1; have cx1 := HCX.out w1 hb1; have cy1 := HCY.out w1 hb1; have q10 : w1.cell? ⟨g1, 0, none⟩ = some (.slice pc nc cc) := (by have := HR1.out.row (i := 0) rfl; rw [Nat.zero_add] at this; exact this); have hs1 : wr.heap.size ≤ w1.heap.size := hb1.size; have hgl1 : g1 < w1.heap.size := HR1.out.1) | (at_builtin; refine wpList_appendE ET rfl (.tmp 92) (.tmp 98) rfl wl.heap.size (.slice po no co) os ((r : Int), pc, nc, cc) ⟨w1.heap.size, 0, none⟩ 1 rfl ((HO.out.below hb1).alloc _) rfl (new_tree w1 _ rfl _ _ _ _) (by rw [HOL.out]; omega) (by simp; have := hb1.size; omega) ?_; intro vo' wo hAo hgo hko; have HAO : Hid (OwnE ET wo wl.heap.size vo' (os ++ [((r : Int), pc, nc, cc)])) := hAo; have HGW : Hid ((w1.alloc (.cells #[.int .i64 r, .slice pc nc cc] 37)).grownBy wo (Value.slice po no co).ownBlock) := hgo; have HKO : Hid (vo'.ownBlock = (Value.slice po no co).ownBlock ∨ vo'.ownBlock = some (w1.alloc (.cells #[.int .i64 r, .slice pc nc cc] 37)).heap.size) := hko; clear hAo hgo hko; obtain ⟨po', co', hvo⟩ := HAO.out.form; rw [List.length_append, HOL.out] at hvo; have hvo' : vo' = .slice po' (no + 1) co' := hvo; clear hvo; subst hvo'; have hbal : Below wr.heap.size wr (w1.alloc (.cells #[.int .i64 r, .slice pc nc cc] 37)) := hb1.alloc hb1.size _; have hso : wr.heap.size ≤ wo.heap.size := Nat.le_trans hbal.size HGW.out.size; have HGN : Hid (some g1 ≠ (Value.slice po no co).ownBlock) := (fun e => by have h1 := (World.ownsRow.lt HO.out g1 e.symm).2; omega); have hglo : g1 < wo.heap.size := Nat.lt_of_lt_of_le (show g1 < (w1.alloc (.cells #[.int .i64 r, .slice pc nc cc] 37)).heap.size by simp; omega) HGW.out.size; have o0 : wo.cell? ⟨g1, 0, none⟩ = some (.slice pc nc cc) := (World.cell?_of_block (a := ⟨g1, 0, none⟩) (HGW.out.block g1 (by simp; omega) HGN.out)).trans (((Below.refl w1.heap.size w1).alloc (Nat.le_refl _) _).cell (p := ⟨g1, 0, none⟩) hgl1 |>.trans q10)))
                    have HBO : Hid (Below wl.heap.size wl wo) := (HB.out.trans (Below.mono hbal HB.out.size)).trans (below_ownE ((HO.out.below hb1).alloc _) HGW.out (Nat.le_refl _) (by simp; have := HB.out.size; have := hb1.size; omega))
                    have HOUT : Hid (OutAt F wo (Value.slice po' (no + 1) co').ownBlock (os ++ [((r : Int), pc, nc, cc)]) (hout ++ [(r, Lc)])) := by
                      have ho1 := (HOUTA.out.below hbal).kept HGW.out HKO.out
                      exact ho1.snoc (s := (pc, nc, cc)) ((HSc.out.below hbal).kept HGW.out HKO.out)
                    have HSc' : Hid (SlB F wo (Value.slice po' (no + 1) co').ownBlock (.slice pc nc cc) Lc) := (HSc.out.below hbal).kept HGW.out HKO.out
                    go_roundg (8 - (r + 1))
                    case measure => omega
                    case rel =>
                      exact ⟨r + 1, no + 1, co', 0, 0, po', none, (os ++ [((r : Int), pc, nc, cc)]), hout ++ [(r, Lc)], [], rfl, rfl, by go_num, by omega, Nat.le_refl _, by omega, (show _ = _ by simp [HOL.out]), rfl, HAO, HOUT, (show SlB _ _ _ _ _ from ⟨none, 0, rfl, Nat.le_refl _, Or.inl rfl⟩), HTE, (show _ = _ from HGO.out.symm.trans HEQ.out), HBO⟩
                  · have hzc : (0 : Int) < (nc : Int) := by omega
                    obtain rfl : nx = 0 := by omega
                    have hzy : (0 : Int) < (ny : Int) := by omega
                    have HNE : Hid ((Lc ≠ []) ∧ (Lx = []) ∧ (Ly ≠ [])) := ⟨(fun e => by have := HNc.out; rw [e] at this; simp only [List.length_nil] at this; omega), (List.eq_nil_of_length_eq_zero HNx.out), (fun e => by have := HNy.out; rw [e] at this; simp only [List.length_nil] at this; omega)⟩
                    have HGO : Hid (hout ++ meldTo (digitH h1) (digitH h2) (8 - r) r Lc = (hout ++ []) ++ meldTo (digitH h1) (digitH h2) (8 - (r + 1)) (r + 1) (linkL Lc Ly)) := by
                      show _ = _
                      obtain ⟨e1, e2, e3⟩ := HNE.out
                      rw [show 8 - r = (8 - (r + 1)) + 1 by omega, meldTo_go (o := []) (c' := linkL Lc Ly) (by rw [HLX.out, HLY.out]; simp [pickL, optL, outD, putR, e1, e2, e3]) (by rw [HLX.out, HLY.out]; simp [pickL, optL, carD, e1, e2, e3]), List.append_assoc]
                    have HTE : Hid (TE (r + 1) (linkL Lc Ly)) := (by show TE _ _; obtain ⟨e1, e2, e3⟩ := HNE.out; obtain ⟨t1, t2, _⟩ := pick_step HTC.out HTX.out HTY.out; simpa [pickL, optL, carD, e1, e2, e3] using t2)
                    go_wp2_with (first | (at_builtin; refine wpList_appendE ES rfl (.tmp 58) (.tmp 60) rfl wr.heap.size (.slice none 0 0) [] (pc, nc, cc) ⟨wr.heap.size, 0, none⟩ 1 rfl (OwnE.nil ES _ _) rfl (new_row wr _ rfl _ _ _) (by simp) (by simp) ?_; intro v1 w1 hA hg _; have hb1 : Below wr.heap.size wr w1 := ((Below.refl _ _).alloc (Nat.le_refl _) _).trans (below_ownE (OwnE.nil ES _ _) hg (Nat.le_refl _) (by simp)); have HL1 : Hid (OwnE ES w1 wr.heap.size v1 [(pc, nc, cc)]) := hA; clear hA hg; obtain ⟨g1, cp1, hv1, hgb1, hcp1, hrd1, _⟩ := HL1.out.some (n := 1) rfl (by omega); have HR1 : Hid (RdE ES w1 g1 0 [(pc, nc, cc)]) := hrd1; clear hrd1; subst hv1; have cx1 := HCX.out w1 hb1; have cy1 := HCY.out w1 hb1; have q10 : w1.cell? ⟨g1, 0, none⟩ = some (.slice pc nc cc) := (by have := HR1.out.row (i := 0) rfl; rw [Nat.zero_add] at this; exact this); have hs1 : wr.heap.size ≤ w1.heap.size := hb1.size; have hgl1 : g1 < w1.heap.size := HR1.out.1) | (at_builtin; refine wpList_appendE ES rfl (.tmp 81) (.tmp 86) rfl wr.heap.size (.slice (some ⟨g1, 0, none⟩) 1 cp1) [(pc, nc, cc)] (py, ny, cy) ⟨w1.heap.size, 0, none⟩ 1 rfl (HL1.out.alloc _) rfl (new_row w1 _ rfl _ _ _) (by simp) (by simp; have := hb1.size; omega) ?_; intro v2 w2 hA hg _; have hb2 : Below wr.heap.size wr w2 := (hb1.alloc hb1.size _).trans (below_ownE (HL1.out.alloc _) hg (Nat.le_refl _) (by simp; have := hb1.size; omega)); have HL2 : Hid (OwnE ES w2 wr.heap.size v2 [(pc, nc, cc), (py, ny, cy)]) := hA; clear hA hg; obtain ⟨g2, cp2, hv2, hgb2, hcp2, hrd2, _⟩ := HL2.out.some (n := 2) rfl (by omega); have HR2 : Hid (RdE ES w2 g2 0 [(pc, nc, cc), (py, ny, cy)]) := hrd2; clear hrd2; subst hv2; have cx2 := HCX.out w2 hb2; have cy2 := HCY.out w2 hb2; have q20 : w2.cell? ⟨g2, 0, none⟩ = some (.slice pc nc cc) := (by have := HR2.out.row (i := 0) rfl; rw [Nat.zero_add] at this; exact this); have q21 : w2.cell? ⟨g2, 1, none⟩ = some (.slice py ny cy) := (by have := HR2.out.row (i := 1) rfl; rw [Nat.zero_add] at this; exact this); have hs2 : wr.heap.size ≤ w2.heap.size := hb2.size; have hgl2 : g2 < w2.heap.size := HR2.out.1))
                    have HBO : Hid (Below wl.heap.size wl w2) := HB.out.trans (Below.mono hb2 HB.out.size)
                    have HAO : Hid (OwnE ET w2 wl.heap.size (.slice po no co) os) := HO.out.below hb2
                    have HOUT : Hid (OutAt F w2 (Value.slice po no co).ownBlock os (hout ++ [])) := by show OutAt _ _ _ _ _; rw [List.append_nil]; exact HOUTA.out.below hb2
                    have HSc' : Hid (SlB F w2 (Value.slice po no co).ownBlock (.slice pc nc cc) Lc) := HSc.out.below hb2
                    have HSy' : Hid (SlB F w2 (Value.slice po no co).ownBlock (.slice py ny cy) Ly) := HSy.out.below hb2
                    have hne : Lc ≠ [] ∧ Ly ≠ [] := by obtain ⟨e1, e2, e3⟩ := HNE.out; exact ⟨by assumption, by assumption⟩
                    have HNE2 : Hid (Lc ≠ [] ∧ Ly ≠ []) := hne
                    clear hne
                    have hk2 : IntKind.i64.wrap ((2 : Int) - 2) = 0 := by decide
                    have hk1 : IntKind.i64.wrap ((2 : Int) - 1) = 1 := by decide
                    go_region_with (first | (go_at_call 33; refine (link_any _ _ Lc Ly _ HNE2.out.1 HNE2.out.2 (by have := HMc.out; omega) (by have := HMy.out; omega) ?_ ?_).mono ?_; (exact (HSc'.out.below (below_drewN (Below.refl _ _) 1)).sl); (exact (HSy'.out.below (below_drewN (Below.refl _ _) 1)).sl); rintro e wz ⟨uz, rfl, hoz, hbz'⟩; have hbz : Below w2.heap.size w2 wz := (below_drewN (Below.refl _ _) 1).trans hbz'; have HZ : Hid (OwnI wz w2.heap.size uz (linkL Lc Ly)) := hoz; clear hoz hbz'))
                    all_goals
                      go_wp2
                      go_roundg (8 - (r + 1))
                      case measure => omega
                      case rel =>
                        have hf : SlB F wz (Value.slice po (no) co).ownBlock uz (linkL Lc Ly) := SlB.fresh HZ.out (fun g e => (World.ownsRow.lt HAO.out g e).2) fun g e => (by have := HFF.out g e; have := HBO.out.size; omega)
                        obtain ⟨pz, cz, hz, _⟩ := id hf
                        subst hz
                        exact ⟨r + 1, no, co, _, cz, po, pz, os, hout ++ [], linkL Lc Ly, rfl, rfl, by go_num, by omega, Nat.le_refl _, by omega, (show _ = _ by simp [HOL.out]), rfl, HAO.out.below hbz, HOUT.out.below hbz, hf, HTE, (show _ = _ from HGO.out.symm.trans HEQ.out), HBO.out.trans (Below.mono hbz HBO.out.size)⟩
                · rcases Nat.eq_zero_or_pos ny with hy0 | hy0
                  · have hzc : (0 : Int) < (nc : Int) := by omega
                    have hzx : (0 : Int) < (nx : Int) := by omega
                    obtain rfl : ny = 0 := by omega
                    have HNE : Hid ((Lc ≠ []) ∧ (Lx ≠ []) ∧ (Ly = [])) := ⟨(fun e => by have := HNc.out; rw [e] at this; simp only [List.length_nil] at this; omega), (fun e => by have := HNx.out; rw [e] at this; simp only [List.length_nil] at this; omega), (List.eq_nil_of_length_eq_zero HNy.out)⟩
                    have HGO : Hid (hout ++ meldTo (digitH h1) (digitH h2) (8 - r) r Lc = (hout ++ []) ++ meldTo (digitH h1) (digitH h2) (8 - (r + 1)) (r + 1) (linkL Lc Lx)) := by
                      show _ = _
                      obtain ⟨e1, e2, e3⟩ := HNE.out
                      rw [show 8 - r = (8 - (r + 1)) + 1 by omega, meldTo_go (o := []) (c' := linkL Lc Lx) (by rw [HLX.out, HLY.out]; simp [pickL, optL, outD, putR, e1, e2, e3]) (by rw [HLX.out, HLY.out]; simp [pickL, optL, carD, e1, e2, e3]), List.append_assoc]
                    have HTE : Hid (TE (r + 1) (linkL Lc Lx)) := (by show TE _ _; obtain ⟨e1, e2, e3⟩ := HNE.out; obtain ⟨t1, t2, _⟩ := pick_step HTC.out HTX.out HTY.out; simpa [pickL, optL, carD, e1, e2, e3] using t2)
                    go_wp2_with (first | (at_builtin; refine wpList_appendE ES rfl (.tmp 58) (.tmp 60) rfl wr.heap.size (.slice none 0 0) [] (pc, nc, cc) ⟨wr.heap.size, 0, none⟩ 1 rfl (OwnE.nil ES _ _) rfl (new_row wr _ rfl _ _ _) (by simp) (by simp) ?_; intro v1 w1 hA hg _; have hb1 : Below wr.heap.size wr w1 := ((Below.refl _ _).alloc (Nat.le_refl _) _).trans (below_ownE (OwnE.nil ES _ _) hg (Nat.le_refl _) (by simp)); have HL1 : Hid (OwnE ES w1 wr.heap.size v1 [(pc, nc, cc)]) := hA; clear hA hg; obtain ⟨g1, cp1, hv1, hgb1, hcp1, hrd1, _⟩ := HL1.out.some (n := 1) rfl (by omega); have HR1 : Hid (RdE ES w1 g1 0 [(pc, nc, cc)]) := hrd1; clear hrd1; subst hv1; have cx1 := HCX.out w1 hb1; have cy1 := HCY.out w1 hb1; have q10 : w1.cell? ⟨g1, 0, none⟩ = some (.slice pc nc cc) := (by have := HR1.out.row (i := 0) rfl; rw [Nat.zero_add] at this; exact this); have hs1 : wr.heap.size ≤ w1.heap.size := hb1.size; have hgl1 : g1 < w1.heap.size := HR1.out.1) | (at_builtin; refine wpList_appendE ES rfl (.tmp 68) (.tmp 73) rfl wr.heap.size (.slice (some ⟨g1, 0, none⟩) 1 cp1) [(pc, nc, cc)] (px, nx, cx) ⟨w1.heap.size, 0, none⟩ 1 rfl (HL1.out.alloc _) rfl (new_row w1 _ rfl _ _ _) (by simp) (by simp; have := hb1.size; omega) ?_; intro v2 w2 hA hg _; have hb2 : Below wr.heap.size wr w2 := (hb1.alloc hb1.size _).trans (below_ownE (HL1.out.alloc _) hg (Nat.le_refl _) (by simp; have := hb1.size; omega)); have HL2 : Hid (OwnE ES w2 wr.heap.size v2 [(pc, nc, cc), (px, nx, cx)]) := hA; clear hA hg; obtain ⟨g2, cp2, hv2, hgb2, hcp2, hrd2, _⟩ := HL2.out.some (n := 2) rfl (by omega); have HR2 : Hid (RdE ES w2 g2 0 [(pc, nc, cc), (px, nx, cx)]) := hrd2; clear hrd2; subst hv2; have cx2 := HCX.out w2 hb2; have cy2 := HCY.out w2 hb2; have q20 : w2.cell? ⟨g2, 0, none⟩ = some (.slice pc nc cc) := (by have := HR2.out.row (i := 0) rfl; rw [Nat.zero_add] at this; exact this); have q21 : w2.cell? ⟨g2, 1, none⟩ = some (.slice px nx cx) := (by have := HR2.out.row (i := 1) rfl; rw [Nat.zero_add] at this; exact this); have hs2 : wr.heap.size ≤ w2.heap.size := hb2.size; have hgl2 : g2 < w2.heap.size := HR2.out.1))
                    have HBO : Hid (Below wl.heap.size wl w2) := HB.out.trans (Below.mono hb2 HB.out.size)
                    have HAO : Hid (OwnE ET w2 wl.heap.size (.slice po no co) os) := HO.out.below hb2
                    have HOUT : Hid (OutAt F w2 (Value.slice po no co).ownBlock os (hout ++ [])) := by show OutAt _ _ _ _ _; rw [List.append_nil]; exact HOUTA.out.below hb2
                    have HSc' : Hid (SlB F w2 (Value.slice po no co).ownBlock (.slice pc nc cc) Lc) := HSc.out.below hb2
                    have HSx' : Hid (SlB F w2 (Value.slice po no co).ownBlock (.slice px nx cx) Lx) := HSx.out.below hb2
                    have hne : Lc ≠ [] ∧ Lx ≠ [] := by obtain ⟨e1, e2, e3⟩ := HNE.out; exact ⟨by assumption, by assumption⟩
                    have HNE2 : Hid (Lc ≠ [] ∧ Lx ≠ []) := hne
                    clear hne
                    have hk2 : IntKind.i64.wrap ((2 : Int) - 2) = 0 := by decide
                    have hk1 : IntKind.i64.wrap ((2 : Int) - 1) = 1 := by decide
                    go_region_with (first | (go_at_call 33; refine (link_any _ _ Lc Lx _ HNE2.out.1 HNE2.out.2 (by have := HMc.out; omega) (by have := HMx.out; omega) ?_ ?_).mono ?_; (exact (HSc'.out.below (below_drewN (Below.refl _ _) 1)).sl); (exact (HSx'.out.below (below_drewN (Below.refl _ _) 1)).sl); rintro e wz ⟨uz, rfl, hoz, hbz'⟩; have hbz : Below w2.heap.size w2 wz := (below_drewN (Below.refl _ _) 1).trans hbz'; have HZ : Hid (OwnI wz w2.heap.size uz (linkL Lc Lx)) := hoz; clear hoz hbz'))
                    all_goals
                      go_wp2
                      go_roundg (8 - (r + 1))
                      case measure => omega
                      case rel =>
                        have hf : SlB F wz (Value.slice po (no) co).ownBlock uz (linkL Lc Lx) := SlB.fresh HZ.out (fun g e => (World.ownsRow.lt HAO.out g e).2) fun g e => (by have := HFF.out g e; have := HBO.out.size; omega)
                        obtain ⟨pz, cz, hz, _⟩ := id hf
                        subst hz
                        exact ⟨r + 1, no, co, _, cz, po, pz, os, hout ++ [], linkL Lc Lx, rfl, rfl, by go_num, by omega, Nat.le_refl _, by omega, (show _ = _ by simp [HOL.out]), rfl, HAO.out.below hbz, HOUT.out.below hbz, hf, HTE, (show _ = _ from HGO.out.symm.trans HEQ.out), HBO.out.trans (Below.mono hbz HBO.out.size)⟩
                  · have hzc : (0 : Int) < (nc : Int) := by omega
                    have hzx : (0 : Int) < (nx : Int) := by omega
                    have hzy : (0 : Int) < (ny : Int) := by omega
                    have HNE : Hid ((Lc ≠ []) ∧ (Lx ≠ []) ∧ (Ly ≠ [])) := ⟨(fun e => by have := HNc.out; rw [e] at this; simp only [List.length_nil] at this; omega), (fun e => by have := HNx.out; rw [e] at this; simp only [List.length_nil] at this; omega), (fun e => by have := HNy.out; rw [e] at this; simp only [List.length_nil] at this; omega)⟩
                    have HGO : Hid (hout ++ meldTo (digitH h1) (digitH h2) (8 - r) r Lc = (hout ++ [(r, Lc)]) ++ meldTo (digitH h1) (digitH h2) (8 - (r + 1)) (r + 1) (linkL Lx Ly)) := by
                      show _ = _
                      obtain ⟨e1, e2, e3⟩ := HNE.out
                      rw [show 8 - r = (8 - (r + 1)) + 1 by omega, meldTo_go (o := [(r, Lc)]) (c' := linkL Lx Ly) (by rw [HLX.out, HLY.out]; simp [pickL, optL, outD, putR, e1, e2, e3]) (by rw [HLX.out, HLY.out]; simp [pickL, optL, carD, e1, e2, e3]), List.append_assoc]
                    have HTE : Hid (TE (r + 1) (linkL Lx Ly)) := (by show TE _ _; obtain ⟨e1, e2, e3⟩ := HNE.out; obtain ⟨t1, t2, _⟩ := pick_step HTC.out HTX.out HTY.out; simpa [pickL, optL, carD, e1, e2, e3] using t2)
                    go_wp2_with (first | (at_builtin; refine wpList_appendE ES rfl (.tmp 58) (.tmp 60) rfl wr.heap.size (.slice none 0 0) [] (pc, nc, cc) ⟨wr.heap.size, 0, none⟩ 1 rfl (OwnE.nil ES _ _) rfl (new_row wr _ rfl _ _ _) (by simp) (by simp) ?_; intro v1 w1 hA hg _; have hb1 : Below wr.heap.size wr w1 := ((Below.refl _ _).alloc (Nat.le_refl _) _).trans (below_ownE (OwnE.nil ES _ _) hg (Nat.le_refl _) (by simp)); have HL1 : Hid (OwnE ES w1 wr.heap.size v1 [(pc, nc, cc)]) := hA; clear hA hg; obtain ⟨g1, cp1, hv1, hgb1, hcp1, hrd1, _⟩ := HL1.out.some (n := 1) rfl (by omega); have HR1 : Hid (RdE ES w1 g1 0 [(pc, nc, cc)]) := hrd1; clear hrd1; subst hv1; have cx1 := HCX.out w1 hb1; have cy1 := HCY.out w1 hb1; have q10 : w1.cell? ⟨g1, 0, none⟩ = some (.slice pc nc cc) := (by have := HR1.out.row (i := 0) rfl; rw [Nat.zero_add] at this; exact this); have hs1 : wr.heap.size ≤ w1.heap.size := hb1.size; have hgl1 : g1 < w1.heap.size := HR1.out.1) | (at_builtin; refine wpList_appendE ES rfl (.tmp 68) (.tmp 73) rfl wr.heap.size (.slice (some ⟨g1, 0, none⟩) 1 cp1) [(pc, nc, cc)] (px, nx, cx) ⟨w1.heap.size, 0, none⟩ 1 rfl (HL1.out.alloc _) rfl (new_row w1 _ rfl _ _ _) (by simp) (by simp; have := hb1.size; omega) ?_; intro v2 w2 hA hg _; have hb2 : Below wr.heap.size wr w2 := (hb1.alloc hb1.size _).trans (below_ownE (HL1.out.alloc _) hg (Nat.le_refl _) (by simp; have := hb1.size; omega)); have HL2 : Hid (OwnE ES w2 wr.heap.size v2 [(pc, nc, cc), (px, nx, cx)]) := hA; clear hA hg; obtain ⟨g2, cp2, hv2, hgb2, hcp2, hrd2, _⟩ := HL2.out.some (n := 2) rfl (by omega); have HR2 : Hid (RdE ES w2 g2 0 [(pc, nc, cc), (px, nx, cx)]) := hrd2; clear hrd2; subst hv2; have cx2 := HCX.out w2 hb2; have cy2 := HCY.out w2 hb2; have q20 : w2.cell? ⟨g2, 0, none⟩ = some (.slice pc nc cc) := (by have := HR2.out.row (i := 0) rfl; rw [Nat.zero_add] at this; exact this); have q21 : w2.cell? ⟨g2, 1, none⟩ = some (.slice px nx cx) := (by have := HR2.out.row (i := 1) rfl; rw [Nat.zero_add] at this; exact this); have hs2 : wr.heap.size ≤ w2.heap.size := hb2.size; have hgl2 : g2 < w2.heap.size := HR2.out.1) | (at_builtin; refine wpList_appendE ES rfl (.tmp 81) (.tmp 86) rfl wr.heap.size (.slice (some ⟨g2, 0, none⟩) 2 cp2) [(pc, nc, cc), (px, nx, cx)] (py, ny, cy) ⟨w2.heap.size, 0, none⟩ 1 rfl (HL2.out.alloc _) rfl (new_row w2 _ rfl _ _ _) (by simp) (by simp; have := hb2.size; omega) ?_; intro v3 w3 hA hg _; have hb3 : Below wr.heap.size wr w3 := (hb2.alloc hb2.size _).trans (below_ownE (HL2.out.alloc _) hg (Nat.le_refl _) (by simp; have := hb2.size; omega)); have HL3 : Hid (OwnE ES w3 wr.heap.size v3 [(pc, nc, cc), (px, nx, cx), (py, ny, cy)]) := hA; clear hA hg; obtain ⟨g3, cp3, hv3, hgb3, hcp3, hrd3, _⟩ := HL3.out.some (n := 3) rfl (by omega); have HR3 : Hid (RdE ES w3 g3 0 [(pc, nc, cc), (px, nx, cx), (py, ny, cy)]) := hrd3; clear hrd3; subst hv3; have cx3 := HCX.out w3 hb3; have cy3 := HCY.out w3 hb3; have q30 : w3.cell? ⟨g3, 0, none⟩ = some (.slice pc nc cc) := (by have := HR3.out.row (i := 0) rfl; rw [Nat.zero_add] at this; exact this); have q31 : w3.cell? ⟨g3, 1, none⟩ = some (.slice px nx cx) := (by have := HR3.out.row (i := 1) rfl; rw [Nat.zero_add] at this; exact this); have q32 : w3.cell? ⟨g3, 2, none⟩ = some (.slice py ny cy) := (by have := HR3.out.row (i := 2) rfl; rw [Nat.zero_add] at this; exact this); have hs3 : wr.heap.size ≤ w3.heap.size := hb3.size; have hgl3 : g3 < w3.heap.size := HR3.out.1) | (at_builtin; refine wpList_appendE ET rfl (.tmp 92) (.tmp 98) rfl wl.heap.size (.slice po no co) os ((r : Int), pc, nc, cc) ⟨w3.heap.size, 0, none⟩ 1 rfl ((HO.out.below hb3).alloc _) rfl (new_tree w3 _ rfl _ _ _ _) (by rw [HOL.out]; omega) (by simp; have := hb3.size; omega) ?_; intro vo' wo hAo hgo hko; have HAO : Hid (OwnE ET wo wl.heap.size vo' (os ++ [((r : Int), pc, nc, cc)])) := hAo; have HGW : Hid ((w3.alloc (.cells #[.int .i64 r, .slice pc nc cc] 37)).grownBy wo (Value.slice po no co).ownBlock) := hgo; have HKO : Hid (vo'.ownBlock = (Value.slice po no co).ownBlock ∨ vo'.ownBlock = some (w3.alloc (.cells #[.int .i64 r, .slice pc nc cc] 37)).heap.size) := hko; clear hAo hgo hko; obtain ⟨po', co', hvo⟩ := HAO.out.form; rw [List.length_append, HOL.out] at hvo; have hvo' : vo' = .slice po' (no + 1) co' := hvo; clear hvo; subst hvo'; have hbal : Below wr.heap.size wr (w3.alloc (.cells #[.int .i64 r, .slice pc nc cc] 37)) := hb3.alloc hb3.size _; have hso : wr.heap.size ≤ wo.heap.size := Nat.le_trans hbal.size HGW.out.size; have HGN : Hid (some g3 ≠ (Value.slice po no co).ownBlock) := (fun e => by have h1 := (World.ownsRow.lt HO.out g3 e.symm).2; omega); have hglo : g3 < wo.heap.size := Nat.lt_of_lt_of_le (show g3 < (w3.alloc (.cells #[.int .i64 r, .slice pc nc cc] 37)).heap.size by simp; omega) HGW.out.size; have o0 : wo.cell? ⟨g3, 0, none⟩ = some (.slice pc nc cc) := (World.cell?_of_block (a := ⟨g3, 0, none⟩) (HGW.out.block g3 (by simp; omega) HGN.out)).trans (((Below.refl w3.heap.size w3).alloc (Nat.le_refl _) _).cell (p := ⟨g3, 0, none⟩) hgl3 |>.trans q30); have o1 : wo.cell? ⟨g3, 1, none⟩ = some (.slice px nx cx) := (World.cell?_of_block (a := ⟨g3, 1, none⟩) (HGW.out.block g3 (by simp; omega) HGN.out)).trans (((Below.refl w3.heap.size w3).alloc (Nat.le_refl _) _).cell (p := ⟨g3, 1, none⟩) hgl3 |>.trans q31); have o2 : wo.cell? ⟨g3, 2, none⟩ = some (.slice py ny cy) := (World.cell?_of_block (a := ⟨g3, 2, none⟩) (HGW.out.block g3 (by simp; omega) HGN.out)).trans (((Below.refl w3.heap.size w3).alloc (Nat.le_refl _) _).cell (p := ⟨g3, 2, none⟩) hgl3 |>.trans q32)))
                    have HBO : Hid (Below wl.heap.size wl wo) := (HB.out.trans (Below.mono hbal HB.out.size)).trans (below_ownE ((HO.out.below hb3).alloc _) HGW.out (Nat.le_refl _) (by simp; have := HB.out.size; have := hb3.size; omega))
                    have HOUT : Hid (OutAt F wo (Value.slice po' (no + 1) co').ownBlock (os ++ [((r : Int), pc, nc, cc)]) (hout ++ [(r, Lc)])) := by
                      have ho1 := (HOUTA.out.below hbal).kept HGW.out HKO.out
                      exact ho1.snoc (s := (pc, nc, cc)) ((HSc.out.below hbal).kept HGW.out HKO.out)
                    have HSc' : Hid (SlB F wo (Value.slice po' (no + 1) co').ownBlock (.slice pc nc cc) Lc) := (HSc.out.below hbal).kept HGW.out HKO.out
                    have HSx' : Hid (SlB F wo (Value.slice po' (no + 1) co').ownBlock (.slice px nx cx) Lx) := (HSx.out.below hbal).kept HGW.out HKO.out
                    have HSy' : Hid (SlB F wo (Value.slice po' (no + 1) co').ownBlock (.slice py ny cy) Ly) := (HSy.out.below hbal).kept HGW.out HKO.out
                    have hne : Lx ≠ [] ∧ Ly ≠ [] := by obtain ⟨e1, e2, e3⟩ := HNE.out; exact ⟨by assumption, by assumption⟩
                    have HNE2 : Hid (Lx ≠ [] ∧ Ly ≠ []) := hne
                    clear hne
                    have hk2 : IntKind.i64.wrap ((3 : Int) - 2) = 1 := by decide
                    have hk1 : IntKind.i64.wrap ((3 : Int) - 1) = 2 := by decide
                    go_region_with (first | (go_at_call 33; refine (link_any _ _ Lx Ly _ HNE2.out.1 HNE2.out.2 (by have := HMx.out; omega) (by have := HMy.out; omega) ?_ ?_).mono ?_; (exact (HSx'.out.below (below_drewN (Below.refl _ _) 1)).sl); (exact (HSy'.out.below (below_drewN (Below.refl _ _) 1)).sl); rintro e wz ⟨uz, rfl, hoz, hbz'⟩; have hbz : Below wo.heap.size wo wz := (below_drewN (Below.refl _ _) 1).trans hbz'; have HZ : Hid (OwnI wz wo.heap.size uz (linkL Lx Ly)) := hoz; clear hoz hbz'))
                    all_goals
                      go_wp2
                      go_roundg (8 - (r + 1))
                      case measure => omega
                      case rel =>
                        have hf : SlB F wz (Value.slice po' (no + 1) co').ownBlock uz (linkL Lx Ly) := SlB.fresh HZ.out (fun g e => (World.ownsRow.lt HAO.out g e).2) fun g e => (by have := HFF.out g e; have := HBO.out.size; omega)
                        obtain ⟨pz, cz, hz, _⟩ := id hf
                        subst hz
                        exact ⟨r + 1, no + 1, co', _, cz, po', pz, (os ++ [((r : Int), pc, nc, cc)]), hout ++ [(r, Lc)], linkL Lx Ly, rfl, rfl, by go_num, by omega, Nat.le_refl _, by omega, (show _ = _ by simp [HOL.out]), rfl, HAO.out.below hbz, HOUT.out.below hbz, hf, HTE, (show _ = _ from HGO.out.symm.trans HEQ.out), HBO.out.trans (Below.mono hbz HBO.out.size)⟩
            · have hr8z : ¬ (r : Int) < 8 := by omega
              obtain rfl : r = 8 := by omega
              have HE : Hid (hout = meldH h1 h2) := by show _ = _; rw [← HEQ.out]; simp [meldTo]
              go_wp2
              go_ret
              exact ⟨_, rfl, ⟨os, HO.out.weak (by omega), by rw [← HE.out]; exact HOUTA.out⟩, Below.trans HB.out (Below.mono HBR.out HB.out.size)⟩
end Go.Proofs.YtmkjalpgeljnkaaDoor

/-
  Plain facts of heaps of trees: which ones are right.
-/
namespace Go.Proofs.YtmkjalpgeljnkaaDoor
open Go.RowKit Go.Sort Go.Proofs

/-- A heap of trees that is right. -/
structure OkH (g : List TrL) : Prop where
  isH : IsH g
  rank : ∀ t ∈ g, t.1 ≤ 5
  inr : ∀ x ∈ itemsH g, outB x = false
  size : (itemsH g).length ≤ 60
theorem rankE_zero : ∀ {h : List (Int × List (Int × Int))} {last : Int}, rankE last h = 0 → (∀ t ∈ h, last < t.1 ∧ 0 ≤ t.1 ∧ t.1 ≤ 5 ∧ t.2.length = 2 ^ t.1.toNat) ∧ h.Pairwise (fun a b => a.1 < b.1)
  | [], _, _ => ⟨fun _ h => (by cases h), List.Pairwise.nil⟩
  | (r, l) :: h, last, e => by
    simp only [rankE] at e
    by_cases h1 : r < 0 ∨ 5 < r
    · rw [if_pos h1] at e; cases e
    · rw [if_neg h1] at e
      by_cases h2 : r ≤ last ∨ l.length ≠ 2 ^ r.toNat
      · rw [if_pos h2] at e; cases e
      · rw [if_neg h2] at e
        obtain ⟨i1, i2⟩ := rankE_zero e
        have hl : l.length = 2 ^ r.toNat := by
          rcases Nat.decEq l.length (2 ^ r.toNat) with q | q
          · exact absurd (Or.inr q) h2
          · exact q
        refine ⟨fun t ht => ?_, List.pairwise_cons.2 ⟨fun t ht => (i1 t ht).1, i2⟩⟩
        rcases List.mem_cons.1 ht with rfl | m
        · exact ⟨by simp only; omega, by simp only; omega, by simp only; omega, hl⟩
        · have := i1 t m
          exact ⟨by omega, this.2.1, this.2.2.1, this.2.2.2⟩
theorem rankE_good : ∀ {g : List TrL} {last : Int}, (∀ t ∈ g, last < (t.1 : Int) ∧ t.1 ≤ 5 ∧ t.2.length = 2 ^ t.1) → g.Pairwise (fun a b => a.1 < b.1) → rankE last (zH g) = 0
  | [], _, _, _ => rfl
  | (r, l) :: g, last, h, hp => by
    have h0 := h (r, l) List.mem_cons_self
    simp only at h0
    have e : zH ((r, l) :: g) = ((r : Int), l) :: zH g := rfl
    rw [e, rankE_cons (by omega) (fun c => c.elim (by omega) (fun c => c h0.2.2))]
    have hp2 := List.pairwise_cons.1 hp
    exact rankE_good (fun t ht => ⟨by have := hp2.1 t ht; simp only at this; omega, (h t (List.mem_cons_of_mem _ ht)).2⟩) hp2.2
theorem sizeZ_zH (g : List TrL) : sizeZ (zH g) = (itemsH g).length := by
  unfold sizeZ zH itemsH
  rw [List.map_map, List.length_flatMap]
  rfl
theorem zH_back {h : List (Int × List (Int × Int))} (hh : ∀ t ∈ h, 0 ≤ t.1) : h = zH (h.map fun t => (t.1.toNat, t.2)) := by
  unfold zH
  rw [List.map_map]
  have : h.map id = h.map ((fun t : TrL => ((t.1 : Int), t.2)) ∘ fun t => (t.1.toNat, t.2)) := List.map_congr_left fun t ht => by
    have := hh t ht
    show t = ((t.1.toNat : Int), t.2)
    rw [Int.toNat_of_nonneg this]
  rw [List.map_id] at this
  exact this
theorem keysB_kids {r : Nat} {l : List (Int × Int)} (hl : l.length = 2 ^ r) (h : keysB ((r : Int), l) = true) : IsT r l := by
  refine ⟨hl, Kids.of r 0 1 fun k h1 h2 => ?_⟩
  unfold keysB at h
  rw [List.all_eq_true] at h
  have := of_decide_eq_true (h (k - 1) (List.mem_range.2 (by simp only; rw [hl]; omega)))
  rw [show k - 1 + 1 = k by omega] at this
  exact this
theorem kids_keysB {r : Nat} {l : List (Int × Int)} (h : IsT r l) : keysB ((r : Int), l) = true := by
  refine keysB_good fun k h1 h2 => ?_
  have := Kids.above r 0 1 h.kids k h1 (by have := h.len; omega)
  show ¬ keyL l k < keyL l (aboveK r 0 1 k)
  omega
theorem mem_itemsH {g : List TrL} {x : Int × Int} : x ∈ itemsH g ↔ ∃ t ∈ g, x ∈ t.2 := by simp [itemsH]
theorem binoE_zero {h : List (Int × List (Int × Int))} (e : binoE h = 0) : ∃ g, h = zH g ∧ OkH g := by
  unfold binoE at e
  by_cases h0 : rankE (-1) h = 0
  · rw [if_pos h0] at e
    by_cases h1 : outE h = 0
    · rw [if_pos h1] at e
      by_cases h2 : 60 < sizeZ h
      · rw [if_pos h2] at e; cases e
      · rw [if_neg h2] at e
        have h3 : h.all keysB = true := by
          unfold keysE at e
          cases q : h.all keysB
          · rw [q] at e; simp at e
          · rfl
        obtain ⟨r1, r2⟩ := rankE_zero h0
        have hz := zH_back fun t ht => (r1 t ht).2.1
        refine ⟨h.map fun t => (t.1.toNat, t.2), hz, ⟨fun t ht => ?_, ?_⟩, fun t ht => ?_, fun x hx => ?_, ?_⟩
        · obtain ⟨u, hu, rfl⟩ := List.mem_map.1 ht
          have hk := List.all_eq_true.1 h3 u hu
          obtain ⟨a, b, c, d⟩ := r1 u hu
          refine keysB_kids d ?_
          have eu : ((u.1.toNat : Int), u.2) = u := by rw [Int.toNat_of_nonneg b]
          show keysB ((u.1.toNat : Int), u.2) = true
          rw [eu]; exact hk
        · rw [List.pairwise_map]
          refine List.Pairwise.imp_of_mem (fun {a b} ha hb q => ?_) r2
          have := (r1 a ha).2.1
          have := (r1 b hb).2.1
          show a.1.toNat < b.1.toNat
          omega
        · obtain ⟨u, hu, rfl⟩ := List.mem_map.1 ht
          have := r1 u hu
          show u.1.toNat ≤ 5
          omega
        · obtain ⟨t, ht, hm⟩ := mem_itemsH.1 hx
          obtain ⟨u, hu, rfl⟩ := List.mem_map.1 ht
          cases q : outB x
          · rfl
          · exfalso
            unfold outE at h1
            rw [if_pos (List.any_eq_true.2 ⟨u, hu, List.any_eq_true.2 ⟨x, hm, q⟩⟩)] at h1
            cases h1
        · rw [← sizeZ_zH, ← hz]; omega
    · rw [if_neg h1] at e; exact absurd e h1
  · rw [if_neg h0] at e; exact absurd e h0
theorem binoE_ok {g : List TrL} (H : OkH g) : binoE (zH g) = 0 := by
  refine binoE_good (rankE_good (fun t ht => ⟨by omega, H.rank t ht, (H.isH.trees t ht).len⟩) H.isH.rise) (outE_good fun t ht => ?_) (by rw [sizeZ_zH]; have := H.size; omega) fun t ht => ?_
  · unfold zH at ht
    obtain ⟨u, hu, rfl⟩ := List.mem_map.1 ht
    unfold anyOut
    rw [List.any_eq_false]
    intro x hx
    rw [H.inr x (mem_itemsH.2 ⟨u, hu, by simpa using hx⟩)]
    simp
  · unfold zH at ht
    obtain ⟨u, hu, rfl⟩ := List.mem_map.1 ht
    exact kids_keysB (H.isH.trees u hu)
/-- Melded it is right still. -/
theorem OkH.meld {a b : List TrL} (ha : OkH a) (hb : OkH b) (h : (itemsH a).length + (itemsH b).length ≤ 60) : OkH (meldH a b) ∧ (itemsH (meldH a b)).Perm (itemsH a ++ itemsH b) := by
  obtain ⟨h1, h2⟩ := meldH_good ha.isH hb.isH (by omega)
  have hl : (itemsH (meldH a b)).length ≤ 60 := by rw [h2.length_eq, List.length_append]; exact h
  refine ⟨⟨h1, fun t ht => rank_le (k := 5) (h1.trees t ht) (mem_items_len ht) (Nat.lt_of_le_of_lt hl (by decide)), fun x hx => ?_, hl⟩, h2⟩
  rcases List.mem_append.1 (h2.mem_iff.1 hx) with q | q
  · exact ha.inr x q
  · exact hb.inr x q
end Go.Proofs.YtmkjalpgeljnkaaDoor

/-
  Plain facts of heaps of trees: taking the least one out.
-/
namespace Go.Proofs.YtmkjalpgeljnkaaDoor
open Go.RowKit Go.Sort Go.Proofs

/-- The key at the root of a heap's i-th tree. -/
def rootK (h : List TrL) (i : Nat) : Int := keyL ((h[i]?.getD (0, [])).2) 0
/-- The first tree with the least root, among the first n. -/
def atTo (h : List TrL) : Nat → Nat
  | 0 => 0
  | n + 1 => if rootK h n < rootK h (atTo h n) then n else atTo h n
theorem atTo_lt (h : List TrL) : ∀ n, 0 < n → atTo h n < n
  | 0, q => absurd q (Nat.lt_irrefl 0)
  | n + 1, _ => by
    unfold atTo
    split
    · omega
    · rcases Nat.eq_zero_or_pos n with q | q
      · subst q; unfold atTo; omega
      · have := atTo_lt h n q; omega
theorem atTo_least (h : List TrL) : ∀ n, ∀ j, j < n → rootK h (atTo h n) ≤ rootK h j
  | 0, j, q => absurd q (Nat.not_lt_zero j)
  | n + 1, j, q => by
    unfold atTo
    by_cases e : rootK h n < rootK h (atTo h n)
    · rw [if_pos e]
      rcases Nat.lt_or_ge j n with a | a
      · have := atTo_least h n j a; omega
      · obtain rfl : j = n := by omega
        exact Int.le_refl _
    · rw [if_neg e]
      rcases Nat.lt_or_ge j n with a | a
      · exact atTo_least h n j a
      · obtain rfl : j = n := by omega
        omega
/-- What is left when a heap's least one is taken out. -/
def popH (h : List TrL) : List TrL :=
  let t := h[atTo h h.length]?.getD (0, [])
  meldH (h.eraseIdx (atTo h h.length)) (partsL t.1 t.2 t.1)
theorem erase_split {α : Type} (h : List α) (i : Nat) {t : α} (e : h[i]? = some t) : h = h.take i ++ t :: h.drop (i + 1) ∧ h.eraseIdx i = h.take i ++ h.drop (i + 1) := by
  obtain ⟨hi, rfl⟩ := List.getElem?_eq_some_iff.1 e
  refine ⟨?_, List.eraseIdx_eq_take_drop_succ h i⟩
  rw [← List.drop_eq_getElem_cons hi, List.take_append_drop]
theorem OkH.pop {h : List TrL} (H : OkH h) (hn : h ≠ []) : ∃ r x l, h[atTo h h.length]? = some (r, x :: l) ∧ OkH (h.eraseIdx (atTo h h.length)) ∧ OkH (partsL r (x :: l) r) ∧
    popH h = meldH (h.eraseIdx (atTo h h.length)) (partsL r (x :: l) r) ∧ OkH (popH h) ∧ (x :: itemsH (popH h)).Perm (itemsH h) ∧ ∀ y ∈ itemsH h, x.1 ≤ y.1 := by
  have hpos : 0 < h.length := List.length_pos_iff.2 hn
  have hat := atTo_lt h h.length hpos
  have hle := atTo_least h h.length
  generalize ea : atTo h h.length = a at hat hle
  obtain ⟨r, m, ht'⟩ : ∃ r m, h[a]? = some (r, m) := ⟨h[a].1, h[a].2, List.getElem?_eq_getElem hat⟩
  have hm : (r, m) ∈ h := List.mem_of_getElem? ht'
  have hT : IsT r m := H.isH.trees _ hm
  obtain ⟨x, l, rfl⟩ := hT.cons
  obtain ⟨hs, he⟩ := erase_split h a ht'
  have hperm : (itemsH h).Perm ((x :: l) ++ itemsH (h.eraseIdx a)) := by
    rw [he]
    conv => lhs; rw [hs]
    rw [itemsH_append, itemsH_cons, itemsH_append]
    refine (List.perm_append_comm_assoc _ _ _).trans ?_
    exact List.Perm.refl _
  have hsub : (h.eraseIdx a).Sublist h := List.eraseIdx_sublist h a
  have hO1 : OkH (h.eraseIdx a) := ⟨⟨fun t q => H.isH.trees t (hsub.subset q), H.isH.rise.sublist hsub⟩, fun t q => H.rank t (hsub.subset q), fun y q => by
      obtain ⟨t, q1, q2⟩ := mem_itemsH.1 q
      exact H.inr y (mem_itemsH.2 ⟨t, hsub.subset q1, q2⟩), by have := hperm.length_eq; have := H.size; simp only [List.length_append] at *; omega⟩
  have hall := parts_all hT
  have hr5 := H.rank _ hm
  have hO2 : OkH (partsL r (x :: l) r) := ⟨partsL_isH hT r (Nat.le_refl _), fun t q => by have := partsL_rank r (x :: l) r t q; simp only at hr5; omega, fun y q => H.inr y (mem_itemsH.2 ⟨_, hm, List.mem_cons_of_mem _ (hall.mem_iff.1 q)⟩), by
      have h1 := hperm.length_eq; have h2 := H.size; have h3 := hall.length_eq; simp only [List.length_append, List.length_cons] at *; omega⟩
  have hpop : popH h = meldH (h.eraseIdx a) (partsL r (x :: l) r) := by
    unfold popH; rw [ea, ht']; rfl
  have hlen : (itemsH (h.eraseIdx a)).length + (itemsH (partsL r (x :: l) r)).length ≤ 60 := by
    have h1 := hperm.length_eq; have h2 := H.size; have h3 := hall.length_eq; simp only [List.length_append, List.length_cons] at *; omega
  obtain ⟨hO3, hp3⟩ := hO1.meld hO2 hlen
  refine ⟨r, x, l, ht', hO1, hO2, hpop, hpop ▸ hO3, ?_, ?_⟩
  · rw [hpop]
    refine (List.Perm.cons x (hp3.trans ((List.Perm.append_left _ hall).trans List.perm_append_comm))).trans ?_
    exact hperm.symm
  · intro y hy
    obtain ⟨⟨q, m'⟩, h1, h2⟩ := mem_itemsH.1 hy
    obtain ⟨j, hj, ej⟩ := List.mem_iff_getElem.1 h1
    have h3 := hle j hj
    have hT' : IsT q m' := H.isH.trees _ h1
    obtain ⟨x', l', rfl⟩ := hT'.cons
    have h4 : x'.1 ≤ y.1 := hT'.least y h2
    have h5 : rootK h a = x.1 := by unfold rootK; rw [ht']; rfl
    have h6 : rootK h j = x'.1 := by unfold rootK; rw [List.getElem?_eq_getElem hj, ej]; rfl
    omega
end Go.Proofs.YtmkjalpgeljnkaaDoor

/-
  The document's heaps of trees: melding two that are right.
-/
namespace Go.Proofs.YtmkjalpgeljnkaaDoor
open Go.RowKit Go.Sort Go.Proofs

theorem IsH.len_le : ∀ {g : List TrL}, IsH g → g.length ≤ (itemsH g).length
  | [], _ => Nat.le_refl _
  | t :: g, H => by
    have h1 := IsH.len_le H.tail
    have h2 := (H.trees t List.mem_cons_self).len
    have h3 := two_pos t.1
    rw [itemsH_cons, List.length_append, List.length_cons]
    omega
theorem OkH.len_le {g : List TrL} (H : OkH g) : g.length ≤ 60 := Nat.le_trans H.isH.len_le H.size
theorem HpF.shape {w0 w : World} {v : Value} {h : List TrL} (H : HpF w0 w v h) : ∃ p c, v = .slice p h.length c := by
  obtain ⟨ts, ⟨p, c, e, _⟩, h2, _⟩ := H
  exact ⟨p, c, by rw [← h2]; exact e⟩
theorem binoMeld_ok (va vb : Value) (h1 h2 : List TrL) (F : Option Nat) (w0 w : World) (HA : HpF w0 w va h1) (HB2 : HpF w0 w vb h2) (HW0 : Below w0.heap.size w0 w) (HF0 : ∀ g, F = some g → w0.heap.size ≤ g) (HFW : ∀ g, F = some g → g < w.heap.size) (H1 : OkH h1) (H2 : OkH h2) :
    Calls Tryd.prog 11 #[va, vb] w fun e w' => ∃ u, e = .returned u ∧ (∃ os, OwnE ET w' w.heap.size u os ∧ OutAt F w' u.ownBlock os (meldH h1 h2)) ∧ Below w.heap.size w w' := by
  obtain ⟨pa, ca, ea⟩ := HA.shape
  obtain ⟨pb, cb, eb⟩ := HB2.shape
  subst ea; subst eb
  have l1 := H1.len_le
  have l2 := H2.len_le
  exact binoMeld_some pa pb h1.length ca h2.length cb h1 h2 F w0 w (by omega) (by omega) rfl rfl HA HB2 HW0 HF0 HFW H1.isH H2.isH (fun t q => by have := H1.rank t q; omega) (fun t q => by have := H2.rank t q; omega)
end Go.Proofs.YtmkjalpgeljnkaaDoor
