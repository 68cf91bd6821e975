/-
  Package soft: Push.
-/
import Derived.Test.YtdpfijhkbhmkgaaDoorSoL
import Derived.Test.YtdpfijhkbhmkgaaDoorRd
namespace Go.Proofs.YtdpfijhkbhmkgaaDoor
open Go.RowKit Go.Sort Go.Proofs Go.Lib

/-- What Push's loop does with a tree, and what follows. -/
theorem node_of {c : SN} (h : c.none? = false) : ∃ k r m is a b, c = .node k r m is a b := by
  cases c using SN.parts with
  | nil => simp [SN.none?] at h
  | node k r m is a b => exact ⟨k, r, m, is, a, b, rfl⟩
theorem rank_le {r : Nat} (h : 2 ^ r ≤ 1000) : r ≤ 1000 := Nat.le_trans (Nat.le_of_lt Nat.lt_two_pow_self) h
/-- A leaf of one's own. -/
theorem leaf_at {w W : World} {N : Nat} {x0 x1 : Int} (e : W = (w.alloc (.cells #[.int .i64 x0, .int .i64 x1] 30)).alloc (.cells #[.slice (some ⟨N, 0, none⟩) 1 1, .int .i64 x0, .int .i64 0, .int .i64 1, .pointer none, .pointer none] 64)) (hN : w.heap.size = N) :
    NdAt W (leafS (x0, x1)) (.pointer (some ⟨N + 1, 0, none⟩)) [N + 1, N] ∧ Below w.heap.size w W := by
  subst hN
  subst e
  have hb1 : Below w.heap.size w (w.alloc (.cells #[.int .i64 x0, .int .i64 x1] 30)) := (Below.refl _ w).alloc (Nat.le_refl _) _
  refine ⟨nd_node.2 ⟨w.heap.size + 1, .slice (some ⟨w.heap.size, 0, none⟩) 1 1, .pointer none, .pointer none, [w.heap.size], [], [], rfl, ?_, ⟨?_, rfl⟩, nd_nil.2 ⟨rfl, rfl⟩, nd_nil.2 ⟨rfl, rfl⟩, by simp⟩, hb1.alloc (by simp) _⟩
  · have := heap_alloc_new (w.alloc (.cells #[.int .i64 x0, .int .i64 x1] 30)) (.cells #[.slice (some ⟨w.heap.size, 0, none⟩) 1 1, .int .i64 x0, .int .i64 0, .int .i64 1, .pointer none, .pointer none] 64)
    unfold Nb
    have e : (w.alloc (.cells #[.int .i64 x0, .int .i64 x1] 30)).heap.size = w.heap.size + 1 := by simp
    rw [e] at this
    rw [this]
    rfl
  · refine OwnE.of_rest (rest := []) (cur := #[.int .i64 x0, .int .i64 x1]) rfl (Nat.zero_le _) ?_ (Nat.le_refl _) (by unfold maxLen; omega) rfl rfl
    rw [Below.heap_alloc _ _ _ (by simp)]
    exact heap_alloc_new w _
theorem rd_one (w : World) (x0 x1 : Int) : RdAt (w.alloc (.cells #[.int .i64 x0, .int .i64 x1] 30)) w.heap.size 0 #[(x0, x1)] := by
  refine ⟨by simp, fun i hi => ?_⟩
  match i, hi with
  | 0, _ => exact ⟨by simp, by simp⟩
  | i + 1, hi => exact absurd hi (by simp)
theorem len_room (ts : List SN) : ts.length ≤ roomS ts := by
  induction ts with
  | nil => exact Nat.le_refl _
  | cons t ts ih => rw [roomS_cons, List.length_cons]; have := Nat.two_pow_pos t.rank; omega
/-- Where Push's loop begins. -/
theorem push_start {w w2 W : World} {hb r0 n : Nat} {ts : List SN} {f : List Nat} {x0 x1 : Int} {M : Nat} (hH : HAt w hb r0 n ts f) (hf : f.Nodup) (hG : GoodS r0 n ts) (hall : (allS ts).length ≤ n) (hb2 : Below w.heap.size w w2) (hM : w2.heap.size = M)
    (e : W = ((w2.setCell ⟨hb, 1, none⟩ (.int .i64 ((n : Int) + 1))).alloc (.cells #[.int .i64 x0, .int .i64 x1] 30)).alloc (.cells #[.slice (some ⟨M, 0, none⟩) 1 1, .int .i64 x0, .int .i64 0, .int .i64 1, .pointer none, .pointer none] 64)) :
    PushI r0 (n + 1) (pushS r0 (x0, x1) ts) hb f w ts.length ts.length (.pointer (some ⟨M + 1, 0, none⟩)) W := by
  obtain ⟨l1, l2⟩ := leaf_at (w := w2.setCell ⟨hb, 1, none⟩ (.int .i64 ((n : Int) + 1))) e (by rw [size_cell]; exact hM)
  obtain ⟨tv, ps, fn, h1, h2, h3, h4⟩ := hH
  have hlt : ∀ j ∈ f, j < w.heap.size := HAt.lt ⟨tv, ps, fn, h1, h2, h3, h4⟩
  have hbm : hb ∈ f := h4.symm.subset List.mem_cons_self
  have n0 := nodup_perm hf h4
  have nb := (List.nodup_cons.1 n0).1
  have c1 : Chg (· ∈ [hb]) w (w2.setCell ⟨hb, 1, none⟩ (.int .i64 ((n : Int) + 1))) := (Chg.of_below hb2).setCell (p := ⟨hb, 1, none⟩) (Or.inl (by simp)) _
  have c2 : Chg (· ∈ [hb]) w W := c1.trans (Chg.of_below (F := fun _ => False) l2) (fun _ q => q.elim)
  have kb : HB (w2.setCell ⟨hb, 1, none⟩ (.int .i64 ((n : Int) + 1))) hb r0 (n + 1) tv := by
    have := (h1.kept (hb2.block hb h1.lt)).put1 (n + 1)
    rw [show ((n + 1 : Nat) : Int) = (n : Int) + 1 by omega] at this
    exact this
  have hsz : w.heap.size ≤ M := by rw [← hM]; exact hb2.size
  refine ⟨_, ts, _, f, l1, ⟨tv, ps, fn, kb.kept (l2.block hb kb.lt), own_kept h2 c2 (fun j z z2 => nb (by rw [← List.mem_singleton.1 z2]; exact List.mem_append_left _ z)), TsAt.kept c2 (fun j z z2 => nb (by rw [← List.mem_singleton.1 z2]; exact List.mem_append_right _ z)) h3, h4⟩, ⟨?_, ?_, c2.mono fun j z => Or.inl (by rw [List.mem_singleton.1 z]; exact hbm)⟩, rfl, ⟨leaf_good r0 _, rfl, fun _ _ => Nat.zero_le _, hG.good, hG.rise, by have := hG.room; show 2 ^ 0 + _ ≤ _; omega, by simp [leafS, SN.all_node, SN.all_nil]; omega⟩, Nat.le_refl _, Nat.le_refl _⟩
  · refine List.nodup_cons.2 ⟨fun q => ?_, List.nodup_cons.2 ⟨fun q => ?_, hf⟩⟩
    · rcases List.mem_cons.1 q with q | q
      · omega
      · have := hlt _ q; omega
    · have := hlt _ q; omega
  · intro j z
    rcases List.mem_cons.1 z with rfl | z
    · exact Or.inr (by omega)
    · rcases List.mem_cons.1 z with rfl | z
      · exact Or.inr hsz
      · exact Or.inl z
theorem first_cell {w : World} {g L cap : Nat} {p : Option Addr} {ps : List (Option Addr)} (h : OwnE EP w 0 (.slice (some ⟨g, 0, none⟩) L cap) (p :: ps)) : w.cell? ⟨g, 0, none⟩ = some (.pointer p) := by
  obtain ⟨cur, rest, _, _, hg, _, _, _, ht⟩ := h.rest
  have := lie_block (w := w) (b := g) (pre := []) (cs := EP.flat (p :: ps)) (post := rest) hg (by rw [ht]; rfl) 0 (.pointer p) rfl
  simpa using this
set_option maxHeartbeats 8000000 in
set_option maxRecDepth 100000 in
theorem push_good {w : World} {hb r0 n : Nat} {ts : List SN} {f : List Nat} {x0 x1 : Int} (hH : HAt w hb r0 n ts f) (hf : f.Nodup) (hG : GoodS r0 n ts) (hall : (allS ts).length ≤ n) (hn : n < 400) (hx : wrong #[(x0, x1)] = 0) :
    Calls Tryd.prog 8 #[.pointer (some ⟨hb, 0, none⟩), .agg #[.int .i64 x0, .int .i64 x1]] w fun e w' => e = .returned .nilIface ∧ ∃ f', HAt w' hb r0 (n + 1) (pushS r0 (x0, x1) ts) f' ∧ Step f f' w w' := by
  have chk : ∀ w1 : World, Calls Tryd.prog 23 #[.slice (some ⟨w1.heap.size, 0, none⟩) 1 1] (w1.alloc (.cells #[.int .i64 x0, .int .i64 x1] 30)) fun e w' => e = .returned .nilIface ∧ Below w1.heap.size w1 w' :=
    fun w1 => (check_any _ #[(x0, x1)] _ (Sl.of_rd (cap := 1) (rd_one w1 x0 x1) (by simp)) (by simp)).mono fun e w' ⟨a, b⟩ => ⟨by rw [a, hx]; rfl, ((Below.refl _ _).alloc (Nat.le_refl _) _).trans (b.mono (by simp))⟩
  have hg := heap_alloc_new w (.cells #[.int .i64 x0, .int .i64 x1] 30)
  have CHK : Hid (Calls Tryd.prog 23 #[.slice (some ⟨w.heap.size + 1, 0, none⟩) 1 1] ((w.alloc (.cells #[.int .i64 x0, .int .i64 x1] 30)).alloc (.cells #[.int .i64 x0, .int .i64 x1] 30)) fun e w' => e = .returned .nilIface ∧ Below (w.heap.size + 1) (w.alloc (.cells #[.int .i64 x0, .int .i64 x1] 30)) w' ∧ w'.cell? ⟨w.heap.size, 0, none⟩ = some (.int .i64 x0) ∧ w'.cell? ⟨w.heap.size, 1, none⟩ = some (.int .i64 x1)) := by
    have := chk (w.alloc (.cells #[.int .i64 x0, .int .i64 x1] 30))
    rw [show (w.alloc (.cells #[.int .i64 x0, .int .i64 x1] 30)).heap.size = w.heap.size + 1 by simp] at this
    refine this.mono fun e w' ⟨a, b⟩ => ⟨a, b, ?_, ?_⟩
    · rw [b.cell (p := ⟨w.heap.size, 0, none⟩) (Nat.lt_succ_self _)]; simp only [World.cell?]; rw [hg]; rfl
    · rw [b.cell (p := ⟨w.heap.size, 1, none⟩) (Nat.lt_succ_self _)]; simp only [World.cell?]; rw [hg]; rfl
  obtain ⟨tv, ps, fn, h1, h2, h3, h4⟩ := hH
  have HH := hid (show HAt w hb r0 n ts f from ⟨tv, ps, fn, h1, h2, h3, h4⟩)
  have H1 := hid h1
  have HF := hid hf
  have HG := hid hG
  have HA := hid hall
  obtain ⟨T, hT⟩ : ∃ T, pushS r0 (x0, x1) ts = T := ⟨_, rfl⟩
  have HT := hid hT
  rw [hT]
  clear h1 h2 h3 h4 hf hG hall hx chk hT hg
  have hnz : ¬ ((400 : Int) ≤ (n : Int)) := by omega
  have HN := hid hn
  go_enter Tryd.func8, Tryd.ntmps8
  go_wp2_with fail
  refine CHK.out.mono ?_
  rintro e w2 ⟨rfl, hb0, hx0, hx1⟩
  have hb2 : Below w.heap.size w w2 := ((Below.refl _ w).alloc (Nat.le_refl _) _).trans (hb0.mono (by omega))
  have k0 := H1.out.kept (hb2.block hb H1.out.lt)
  obtain ⟨_, q1, _⟩ := k0.cells
  have fr1 := k0.fr 1
  have hne : ¬ w.heap.size = hb := by have := H1.out.lt; omega
  have ST := hid (fun W M hM e => push_start (x0 := x0) (x1 := x1) (W := W) (M := M) HH.out HF.out HG.out HA.out hb2 hM e)
  have hsz : w.heap.size + 1 ≤ w2.heap.size := by have := hb0.size; simpa using this
  clear hb0 hb2 k0 CHK
  obtain ⟨M, hM⟩ : ∃ M, w2.heap.size = M := ⟨_, rfl⟩
  rw [hM] at hsz
  have hm1 : ¬ w.heap.size = M := by omega
  have hm2 : w.heap.size < M := by omega
  have hm3 : w.heap.size < M + 1 := by omega
  go_wp2_with fail
  go_loopg [6] ts.length (fun g v wr => PushI r0 (n + 1) T hb f w ts.length g v wr)
  case atStart => have := ST.out _ _ hM rfl; rw [HT.out] at this; exact this
  case round =>
    clear ST HH H1 HF HG HA HT q1 fr1 hx0 hx1 hM
    obtain ⟨c, us, fc, fh, hC, hHu, hS, hT, hJ, hg⟩ := hrel
    obtain ⟨tv, ps, fn, k1, k2, k3, k4⟩ := hHu
    obtain ⟨kc, rc, mc, ic, ca, cb, rfl⟩ := node_of hJ.some
    obtain ⟨nc, civ, cva, cvb, _, _, _, rfl, hNc, _⟩ := nd_node.1 hC
    obtain ⟨_, _, cr, _⟩ := hNc.cells
    obtain ⟨q0, q1, q2⟩ := k1.cells
    have fr2 := k1.fr 2
    have HC := hid hC
    have HS := hid hS
    have HT := hid hT
    have HJ := hid hJ
    have HG := hid hg
    have HP := hid k4
    have K1 := hid k1
    have K2 := hid k2
    have K3 := hid k3
    clear hNc
    have TAIL : Hid (∀ q, T = (.node kc rc mc ic ca cb) :: us → Calls Tryd.prog 26 #[tv, .int .i64 0, .slice (some ⟨wr.heap.size, 0, none⟩) 1 1] ((wr.drewN q).alloc (.cells #[.pointer (some ⟨nc, 0, none⟩)] 62)) fun e w' => ∃ p l c, e = .returned (.slice p l c) ∧ w'.cell? ⟨hb, 2, none⟩ = some tv ∧ w'.frozen? ⟨hb, 2, none⟩ = false ∧ Hid (∃ f', HAt (w'.setCell ⟨hb, 2, none⟩ (.slice p l c)) hb r0 (n + 1) T f' ∧ Step f f' w (w'.setCell ⟨hb, 2, none⟩ (.slice p l c)))) := by
      intro q eT
      have hbw : Below wr.heap.size wr ((wr.drewN q).alloc (.cells #[.pointer (some ⟨nc, 0, none⟩)] 62)) := (below_drewN' (Below.refl _ wr) q).alloc (Nat.le_refl _) _
      have hlen : ps.length ≤ 1000 := by
        rw [TsAt.len K3.out]
        have h1 := HJ.out.room
        have h2 := len_room us
        have h3 := HN.out
        have h4 := Nat.two_pow_pos (SN.node kc rc mc ic ca cb).rank
        omega
      refine (insert_any (w := (wr.drewN q).alloc (.cells #[.pointer (some ⟨nc, 0, none⟩)] 62)) (OwnE.below K2.out hbw) hlen (Nat.zero_le _) (heap_alloc_new (wr.drewN q) _) (fun e => ?_)).mono ?_
      · have := own_lt K2.out wr.heap.size (by simp [e])
        omega
      · rintro e w' ⟨v', rfl, hI⟩
        obtain ⟨kb, f', e1, e2⟩ := push_end (w := w) (f := f) HC.out K1.out K3.out HP.out HS.out hbw hI
        obtain ⟨p, c, rfl⟩ := hI.1.form
        refine ⟨p, _, c, rfl, kb.cells.2.2, kb.fr 2, f', ?_, e2⟩
        rw [eT]
        exact e1
    cases us with
    | nil =>
      obtain ⟨e1, e2⟩ := k3
      subst e1
      obtain ⟨p, cap, rfl⟩ := k2.form
      have hTT : Hid (T = [.node kc rc mc ic ca cb]) := by show _ = _; rw [← HT.out]; rfl
      clear k1 k2 k4 hC hS hT hJ hg K1 K2 K3
      go_wp2_with fail
      go_quiet (fail)
      go_wp2_with fail
      refine (TAIL.out _ hTT.out).mono ?_
      rintro e w3 ⟨p3, l3, c3, rfl, t1, t2, HX⟩
      clear TAIL
      go_wp2
      go_ret
      exact ⟨rfl, HX.out⟩
    | cons t us =>
      obtain ⟨p1, ps', ft, fr, rfl, hT1, hTs, hpt⟩ := k3
      obtain ⟨kt, rt, mt, it, ta, tb, rfl⟩ := node_of (hJ.all t List.mem_cons_self).2
      obtain ⟨nt, tiv, tva, tvb, _, _, _, ep, hNt, _⟩ := nd_node.1 hT1
      obtain rfl : p1 = some ⟨nt, 0, none⟩ := by simpa using ep
      obtain ⟨_, _, tr, _⟩ := hNt.cells
      obtain ⟨g, cap, rfl, _, hcap, _⟩ := k2.some rfl (by simp)
      have hfc := first_cell k2
      obtain ⟨L, hL⟩ : ∃ L, ((some (⟨nt, 0, none⟩ : Addr)) :: ps').length = L := ⟨_, rfl⟩
      have hL0 : 0 < L := by rw [← hL]; simp
      rw [hL] at q2 K1 K2 HP TAIL
      have hLz : (0 : Int) < (L : Int) := by omega
      have HT1 := hid hT1
      have HTs := hid hTs
      have HPt := hid hpt
      by_cases er : rt = rc
      · subst er
        clear k1 k2 k4 hC hS hT hJ hg K3 hNt ep hT1 hTs hpt TAIL fr2 hL hcap
        have HX : Hid (∀ q, Calls Tryd.prog 24 #[.pointer (some ⟨hb, 0, none⟩), .pointer (some ⟨nt, 0, none⟩), .pointer (some ⟨nc, 0, none⟩)] (wr.drewN q) fun e w' => ∃ p, e = .returned (.pointer p) ∧ w'.cell? ⟨hb, 2, none⟩ = some (.slice (some ⟨g, 0, none⟩) L cap) ∧ Hid (OwnE EP w' 0 (.slice (some ⟨g, 0, none⟩) L cap) (some ⟨nt, 0, none⟩ :: ps')) ∧
            Hid (∀ w3, w'.grownBy w3 (some g) → OwnE EP w3 0 (.slice (some ⟨g, 0, none⟩) (L - 1) cap) ps' → w3.cell? ⟨hb, 2, none⟩ = some (.slice (some ⟨g, 0, none⟩) L cap) ∧ w3.frozen? ⟨hb, 2, none⟩ = false ∧ PushI r0 (n + 1) T hb f w ts.length (gk - 1) (.pointer p) (w3.setCell ⟨hb, 2, none⟩ (.slice (some ⟨g, 0, none⟩) (L - 1) cap)))) := by
          intro q
          have hbw : Below wr.heap.size wr (wr.drewN q) := below_drewN' (Below.refl _ wr) q
          have hj := HJ.out
          obtain ⟨j1, j2⟩ := hj.small (by have := HN.out; omega)
          have hgt := hj.all _ List.mem_cons_self
          have hmt : mt = wantR r0 rt := ((good_node.1 hgt.1).1).want
          have hp0 : fh.Perm (hb :: ([g] ++ (ft ++ fr))) := HP.out.trans (List.Perm.cons _ (List.Perm.append_left _ HPt.out))
          have hnd : (ft ++ fc).Nodup := by
            have n0 := HS.out.nodup
            have p0 : (fc ++ fh).Perm ((ft ++ fc) ++ (hb :: ([g] ++ fr))) := by
              rw [List.perm_iff_count]
              intro a
              have := hp0.count_eq a
              simp only [List.count_append, List.count_cons] at this ⊢
              omega
            exact (List.nodup_append.1 (nodup_perm n0 p0)).1
          refine (joined_any (w := wr.drewN q) (hb := hb) (r0 := r0) (K1.out.kept (w' := wr.drewN q) rfl) (HT1.out.below hbw) (HC.out.below hbw) hnd hgt.1 hj.good rfl j1 (rank_le j2) ?_).mono ?_
          · have := wantR_pow r0 rt
            have j3 : 2 ^ rt ≤ 1000 := j2
            omega
          · rintro e w' ⟨v', rfl, f1, e1, e2⟩
            obtain ⟨p', rfl, _⟩ := e1.ptr
            obtain ⟨r1, r2, r3⟩ := push_round (w := w) (f := f) K1.out K2.out HTs.out hp0 HS.out ((Step.below hnd hbw).trans e2) e1
            refine ⟨p', rfl, r1.cells.2.2, r2, ?_⟩
            intro w3 g1 g2
            obtain ⟨s1, s2, fh', s3, s4⟩ := r3 w3 _ g1 g2 rfl
            refine ⟨s1.cells.2.2, s1.fr 2, _, us, f1, fh', s2, s3, s4, ?_, hj.next rfl, ?_, ?_⟩
            · rw [← HT.out]
              show _ = joinS r0 _ (_ :: us)
              simp only [joinS]
              exact (if_pos (show (SN.node kt rt mt it ta tb).rank = (SN.node kc rt mc ic ca cb).rank from rfl)).symm
            · have := HG.out.1; simp only [List.length_cons] at this; omega
            · have := HG.out.2; omega
        have hgk : 0 < gk := by have := HG.out.1; simp only [List.length_cons] at this; omega
        clear HT1 HTs HPt HC HS HT HJ HG HP K1 K2
        go_wp2_with fail
        go_quiet (fail)
        go_wp2_with fail
        refine (HX.out _).mono ?_
        rintro e w3 ⟨p3, rfl, t1, HO, HY⟩
        clear HX
        have DL : Hid (Calls Tryd.prog 25 #[.slice (some ⟨g, 0, none⟩) L cap, .int .i64 0, .int .i64 1] w3 fun e w' => e = .returned (.slice (some ⟨g, 0, none⟩) (L - 1) cap) ∧ w'.cell? ⟨hb, 2, none⟩ = some (.slice (some ⟨g, 0, none⟩) L cap) ∧ w'.frozen? ⟨hb, 2, none⟩ = false ∧ Hid (PushI r0 (n + 1) T hb f w ts.length (gk - 1) (.pointer p3) (w'.setCell ⟨hb, 2, none⟩ (.slice (some ⟨g, 0, none⟩) (L - 1) cap)))) := by
          refine (deleteP (i := 0) (j := 1) HO.out (by omega) (by omega)).mono ?_
          rintro e w' ⟨rfl, d1, d2⟩
          rw [Nat.zero_add] at d1 ⊢
          obtain ⟨z1, z2, z3⟩ := HY.out w' d2 (by simpa using d1)
          exact ⟨rfl, z1, z2, z3⟩
        clear HY HO
        go_wp2_with fail
        refine DL.out.mono ?_
        rintro e w4 ⟨rfl, t2, t3, HZ⟩
        clear DL
        go_wp2
        go_roundg (gk - 1)
        case measure => omega
        case rel => exact HZ.out
      · have erz : ¬ ((rt : Int) = (rc : Int)) := by omega
        have hTT : Hid (T = .node kc rc mc ic ca cb :: .node kt rt mt it ta tb :: us) := by
          show _ = _
          rw [← HT.out]
          simp only [joinS]
          rw [if_neg (show ¬ (SN.node kt rt mt it ta tb).rank = (SN.node kc rc mc ic ca cb).rank from er)]
        clear k1 k2 k4 hC hS hT hJ hg K1 K2 K3 hNt ep hT1 hTs hpt hL hcap HT1 HTs HPt
        go_wp2_with fail
        go_quiet (fail)
        go_wp2_with fail
        refine (TAIL.out _ hTT.out).mono ?_
        rintro e w3 ⟨p3, l3, c3, rfl, t1, t2, HX⟩
        clear TAIL
        go_wp2
        go_ret
        exact ⟨rfl, HX.out⟩
#print axioms push_good
end Go.Proofs.YtdpfijhkbhmkgaaDoor
