/-
  Package soft: two trees of one rank are joined.
-/
import Derived.Test.YtdpfijhkbhmkgaaDoorSoI
import Derived.Test.YtdpfijhkbhmkgaaDoorSoV
namespace Go.Proofs.YtdpfijhkbhmkgaaDoor
open Go.RowKit Go.Sort Go.Proofs Go.Lib

theorem below_drewN' {B : Nat} {a b : World} (h : Below B a b) (q : Nat) : Below B a (b.drewN q) := ⟨h.os, h.tape, h.output, h.size, h.block⟩
/-- A new node, whose parts are there already. -/
theorem nd_new {w W : World} {t c : SN} {vt vc : Value} {ft fc : List Nat} {r m N : Nat} (hNz : w.heap.size = N) (hT : NdAt w t vt ft) (hC : NdAt w c vc fc) (hnd : (ft ++ fc).Nodup) (hb : Below w.heap.size w W) (hN : Nb W N (.slice none 0 0) 0 r m vt vc) :
    NdAt W (.node 0 r m [] t c) (.pointer (some ⟨N, 0, none⟩)) (N :: ([] ++ (ft ++ fc))) ∧ Step (ft ++ fc) (N :: ([] ++ (ft ++ fc))) w W := by
  subst hNz
  refine ⟨nd_node.2 ⟨_, _, _, _, [], ft, fc, rfl, hN, ItsAt.nil W, hT.below hb, hC.below hb, List.Perm.refl _⟩, ?_, fun j hj => ?_, Chg.of_below hb⟩
  · refine List.nodup_cons.2 ⟨fun q => ?_, hnd⟩
    rcases List.mem_append.1 q with q | q
    · cases q
    · rcases List.mem_append.1 q with q | q
      · have := hT.lt q; omega
      · have := hC.lt q; omega
  · rcases List.mem_cons.1 hj with rfl | q
    · exact Or.inr (Nat.le_refl _)
    · exact Or.inl (by simpa using q)
set_option maxHeartbeats 4000000 in
theorem joined_any {w : World} {hb r0 r m : Nat} {n2 tv : Value} {k : Int} {is : List (Int × Int)} {a b c : SN} {vt vc : Value} {ft fc : List Nat} (hH : w.heap[hb]? = some (.cells #[.int .i64 (r0 : Int), n2, tv] 60 (0, 0)))
    (hT : NdAt w (.node k r m is a b) vt ft) (hC : NdAt w c vc fc) (hnd : (ft ++ fc).Nodup) (gT : (SN.node k r m is a b).good r0) (gC : c.good r0) (er : r = c.rank) (hL : ((SN.node k r m is a b).all ++ c.all).length ≤ 1000) (hr : r ≤ 1000) (hm : m ≤ 1000000) :
    Calls Tryd.prog 24 #[.pointer (some ⟨hb, 0, none⟩), vt, vc] w fun e w' => ∃ v, e = .returned v ∧ ∃ f', NdAt w' (fillS (.node 0 (r + 1) (wantR r0 (r + 1)) [] (.node k r m is a b) c)) v f' ∧ Step (ft ++ fc) f' w w' := by
  have hO : OpenN r0 0 (r + 1) (wantR r0 (r + 1)) [] (.node k r m is a b) c := open_two gT gC er
  have hF := fill_any r0 _ 0 (r + 1) (wantR r0 (r + 1)) [] _ c (Nat.le_refl _) hO (by simpa using hL)
  have hmw : m = wantR r0 r := ((good_node.1 gT).1).want
  obtain ⟨tb, tiv, tva, tvb, _, _, _, rfl, hN, _⟩ := nd_node.1 hT
  obtain ⟨pc, rfl, _⟩ := hC.ptr
  have hh0 : w.cell? ⟨hb, 0, none⟩ = some (.int .i64 (r0 : Int)) := by simp [World.cell?, hH]
  obtain ⟨_, _, c2, c3, _, _⟩ := hN.cells
  have HT := hid hT
  have HC := hid hC
  have HD := hid hnd
  have HF := hid hF
  have HW := hid hmw
  have hblt : hb < w.heap.size := (Array.getElem?_eq_some_iff.1 hH).1
  have htlt : tb < w.heap.size := hN.lt
  clear hT hC hnd gT gC hL hO hF hN hH hmw er
  obtain ⟨N, hNsz⟩ : ∃ N, w.heap.size = N := ⟨_, rfl⟩
  have key : ∀ W : World, W = w.alloc (.cells #[.slice none 0 0, .int .i64 0, .int .i64 ((r : Int) + 1), .int .i64 1, .pointer (some ⟨tb, 0, none⟩), .pointer pc] 64) → Nb W N (.slice none 0 0) 0 (r + 1) 1 (.pointer (some ⟨tb, 0, none⟩)) (.pointer pc) ∧ Below w.heap.size w W := by
    rintro W rfl
    refine ⟨?_, ⟨rfl, rfl, rfl, by simp, fun k hk => Below.heap_alloc _ _ _ hk⟩⟩
    have := heap_alloc_new w (.cells #[.slice none 0 0, .int .i64 0, .int .i64 ((r : Int) + 1), .int .i64 1, .pointer (some ⟨tb, 0, none⟩), .pointer pc] 64)
    rw [hNsz] at this
    unfold Nb
    rw [this]
    simp
  have KEY := hid key
  clear key
  by_cases hlow : r + 1 ≤ r0
  · have hz : ¬ ((r0 : Int) < (r : Int) + 1) := by omega
    have e1 : Hid (wantR r0 (r + 1) = 1) := wantR_low hlow
    go_enter Tryd.func24, Tryd.ntmps24
    go_wp2_with fail
    generalize hW : w.alloc _ = W
    obtain ⟨hNW, hBW⟩ := KEY.out W hW.symm
    have d0 : W.cell? ⟨hb, 0, none⟩ = some (.int .i64 (r0 : Int)) := by rw [← hh0]; exact hBW.cell (show hb < w.heap.size from hblt) (p := ⟨hb, 0, none⟩)
    obtain ⟨_, _, d2, d3, _, _⟩ := hNW.cells
    have HNW := hid hNW
    have HBW := hid hBW
    clear hW hNW hBW KEY hh0 c2 c3
    go_quiet (fail)
    go_wp2_with fail
    have fin : ∀ q, NdAt (W.drewN q) (.node 0 (r + 1) (wantR r0 (r + 1)) [] (.node k r m is a b) c) (.pointer (some ⟨N, 0, none⟩)) (N :: ([] ++ (ft ++ fc))) ∧ Step (ft ++ fc) (N :: ([] ++ (ft ++ fc))) w (W.drewN q) := fun q => nd_new hNsz HT.out HC.out HD.out (below_drewN' HBW.out q) (by rw [e1.out]; exact HNW.out)
    obtain ⟨f1, s1⟩ := fin nq
    refine (HF.out _ _ _ f1 s1.nodup).mono ?_
    rintro e w2 ⟨rfl, f', h1, h2⟩
    have H1 := hid h1
    have H2 := hid (s1.trans h2)
    clear h1 h2 fin f1 s1
    go_wp2
    go_ret
    exact ⟨_, rfl, f', H1.out, H2.out⟩
  · have hz : (r0 : Int) < (r : Int) + 1 := by omega
    have e1 : Hid (wantR r0 (r + 1) = m + (m + 1) / 2) := by unfold wantR; rw [if_neg hlow, ← HW.out]; rfl
    go_enter Tryd.func24, Tryd.ntmps24
    go_wp2_with fail
    generalize hW : w.alloc _ = W
    obtain ⟨hNW, hBW⟩ := KEY.out W hW.symm
    have d0 : W.cell? ⟨hb, 0, none⟩ = some (.int .i64 (r0 : Int)) := by rw [← hh0]; exact hBW.cell (show hb < w.heap.size from hblt) (p := ⟨hb, 0, none⟩)
    have d5 : W.cell? ⟨tb, 3, none⟩ = some (.int .i64 (m : Int)) := by rw [← c3]; exact hBW.cell (show tb < w.heap.size from htlt) (p := ⟨tb, 3, none⟩)
    obtain ⟨_, _, d2, d3, _, _⟩ := hNW.cells
    have HNW := hid hNW
    have HBW := hid hBW
    have hfr := hNW.fr 3
    clear hW hNW hBW KEY hh0 c2 c3
    go_quiet (fail)
    go_wp2_with fail
    have hq : Hid ((3 * (m : Int) + 1) / 2 = ((m + (m + 1) / 2 : Nat) : Int)) := by show _ = _; omega
    have fin : ∀ q, NdAt ((W.drewN q).setCell ⟨N, 3, none⟩ (.int .i64 ((3 * (m : Int) + 1) / 2))) (.node 0 (r + 1) (wantR r0 (r + 1)) [] (.node k r m is a b) c) (.pointer (some ⟨N, 0, none⟩)) (N :: ([] ++ (ft ++ fc))) ∧ Step (ft ++ fc) (N :: ([] ++ (ft ++ fc))) w ((W.drewN q).setCell ⟨N, 3, none⟩ (.int .i64 ((3 * (m : Int) + 1) / 2))) := fun q => nd_new hNsz HT.out HC.out HD.out ((below_drewN' HBW.out q).setCell (p := ⟨N, 3, none⟩) (by rw [hNsz]; exact Nat.le_refl _) _) (by rw [e1.out, hq.out]; exact Nb.put3 (w := W.drewN q) HNW.out _)
    obtain ⟨f1, s1⟩ := fin nq
    refine (HF.out _ _ _ f1 s1.nodup).mono ?_
    rintro e w2 ⟨rfl, f', h1, h2⟩
    have H1 := hid h1
    have H2 := hid (s1.trans h2)
    clear h1 h2 fin f1 s1
    go_wp2
    go_ret
    exact ⟨_, rfl, f', H1.out, H2.out⟩
#print axioms joined_any
end Go.Proofs.YtdpfijhkbhmkgaaDoor
