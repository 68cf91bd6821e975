/-
  Package soft: Pop.
-/
import Derived.Test.YtdpfijhkbhmkgaaDoorSoQ
namespace Go.Proofs.YtdpfijhkbhmkgaaDoor
open Go.RowKit Go.Sort Go.Proofs Go.Lib

set_option maxHeartbeats 4000000 in
theorem pop_none {w : World} {hb r0 n : Nat} {f : List Nat} (hH : HAt w hb r0 n [] f) :
    Calls Tryd.prog 9 #[.pointer (some ⟨hb, 0, none⟩)] w fun e w' => e = .returned (.tuple #[.agg #[.int .i64 0, .int .i64 0], .int .i64 0, .iface 57 (.int .i64 5)]) ∧ Below w.heap.size w w' := by
  obtain ⟨tv, ps, fn, h1, h2, ⟨e1, _⟩, _⟩ := hH
  subst e1
  obtain ⟨p, cap, rfl⟩ := h2.form
  have hl := h1.lt
  obtain ⟨_, _, q2⟩ := h1.cells
  have hg := heap_alloc_new w (.cells #[.int .i64 0, .int .i64 0] 30)
  have b0 : (w.alloc (.cells #[.int .i64 0, .int .i64 0] 30)).cell? ⟨w.heap.size, 0, none⟩ = some (.int .i64 0) := by simp only [World.cell?]; rw [hg]; rfl
  have b1 : (w.alloc (.cells #[.int .i64 0, .int .i64 0] 30)).cell? ⟨w.heap.size, 1, none⟩ = some (.int .i64 0) := by simp only [World.cell?]; rw [hg]; rfl
  clear h1 h2 hg
  go_enter Tryd.func9, Tryd.ntmps9
  go_wp2
  refine bodyPost_ret (by simp [results, Tryd.results9, go_sem, b0, b1]; try rfl) rfl ?_
  exact ⟨rfl, (Below.refl _ w).alloc (Nat.le_refl _) _⟩
theorem own_cell {w : World} {g L cap i : Nat} {p : Option Addr} {ps : List (Option Addr)} (h : OwnE EP w 0 (.slice (some ⟨g, 0, none⟩) L cap) ps) (e1 : ps[i]? = some p) : w.cell? ⟨g, i, none⟩ = some (.pointer p) := by
  obtain ⟨cur, rest, _, _, hg, _, _, _, ht⟩ := h.rest
  have hl := lie_block (w := w) (b := g) (pre := []) (cs := EP.flat ps) (post := rest) hg (by rw [ht]; rfl) i (.pointer p) ?_
  · simpa using hl
  · have hi : i < ps.length := (List.getElem?_eq_some_iff.1 e1).1
    have hx : ps[i] = p := (List.getElem?_eq_some_iff.1 e1).2
    have := EP.flat_get ps i hi 0 (by decide)
    rw [hx] at this
    have e3 : i * EP.K + 0 = i := by show i * 1 + 0 = i; omega
    rw [e3] at this
    exact this
/-- What Pop's first steps meet: the tree that is least, its items, and what is left. -/
structure PopA (w : World) (hb r0 n : Nat) (ts : List SN) (f : List Nat) (at_ : Nat) (k : Int) (r m : Nat) (x0 x1 : Int) (is : List (Int × Int)) (a b : SN) (g L cap nb gi li ci : Nat) (pa pb : Option Addr) (ps : List (Option Addr)) (fa fb fr : List Nat) : Prop where
  head : HB w hb r0 n (.slice (some ⟨g, 0, none⟩) L cap)
  own : OwnE EP w 0 (.slice (some ⟨g, 0, none⟩) L cap) ps
  node : Nb w nb (.slice (some ⟨gi, 0, none⟩) li ci) k r m (.pointer pa) (.pointer pb)
  its : OwnE EI w 0 (.slice (some ⟨gi, 0, none⟩) li ci) ((x0, x1) :: is)
  left : NdAt w a (.pointer pa) fa
  right : NdAt w b (.pointer pb) fb
  perm : f.Perm (hb :: g :: ((nb :: ([gi] ++ (fa ++ fb))) ++ fr))
  rest : ∀ (w' : World) (F : Nat → Prop), Chg F w w' → (∀ j ∈ fr, ¬ F j) → (∀ t' ft', NdAt w' t' (.pointer (some ⟨nb, 0, none⟩)) ft' → TsAt w' (ts.set at_ t') ps (ft' ++ fr)) ∧ TsAt w' (ts.eraseIdx at_) (ps.eraseIdx at_) fr
  lts : ∀ j ∈ fr, j < w.heap.size
  spot : ps[at_]? = some (some ⟨nb, 0, none⟩)
theorem pop_open {w : World} {hb r0 n : Nat} {ts : List SN} {f : List Nat} {i : Nat} {k : Int} {r m : Nat} {x : Int × Int} {is : List (Int × Int)} {a b : SN} (hH : HAt w hb r0 n ts f) (e : ts[i]? = some (.node k r m (x :: is) a b)) :
    ∃ g cap nb gi ci pa pb ps fa fb fr, PopA w hb r0 n ts f i k r m x.1 x.2 is a b g ts.length cap nb gi (is.length + 1) ci pa pb ps fa fb fr := by
  obtain ⟨tv, ps, fn, h1, h2, h3, h4⟩ := hH
  have hlen := h3.len
  have hi : i < ts.length := (List.getElem?_eq_some_iff.1 e).1
  obtain ⟨g, cap, rfl, _⟩ := h2.some hlen (by omega)
  obtain ⟨p, ft, fr, e1, e2, e3, e4⟩ := h3.at e
  obtain ⟨nb, iv, va, vb, fi, fa, fb, ep, hN, hI, hA, hB, hp⟩ := nd_node.1 e2
  obtain rfl : p = some ⟨nb, 0, none⟩ := by simpa using ep
  obtain ⟨pa, rfl, _⟩ := hA.ptr
  obtain ⟨pb, rfl, _⟩ := hB.ptr
  obtain ⟨gi, ci, rfl, _⟩ := OwnE.some hI.1 rfl (by simp)
  have hfi : fi = [gi] := by have := hI.2; simpa [Value.ownBlock] using this
  subst hfi
  refine ⟨g, cap, nb, gi, ci, pa, pb, ps, fa, fb, fr, h1, h2, hN, hI.1, hA, hB, ?_, e4, fun j z => h3.lt j (e3.symm.subset (List.mem_append_right _ z)), e1⟩
  rw [List.perm_iff_count]
  intro c
  have k1 := h4.count_eq c
  have k2 := e3.count_eq c
  have k3 := hp.count_eq c
  simp only [Value.ownBlock, Option.toList_some, List.count_append, List.count_cons, List.count_nil] at k1 k2 k3 ⊢
  omega
/-- .. and when the first item is taken: N has the result, N + 1 the item. -/
structure PopB (w w4 : World) (hb r0 n : Nat) (ts : List SN) (f : List Nat) (at_ : Nat) (k : Int) (r m : Nat) (x0 x1 : Int) (is : List (Int × Int)) (a b : SN) (g L cap nb gi : Nat) (ps : List (Option Addr)) (ft fr : List Nat) : Prop where
  chg : Chg (· ∈ [nb, gi]) w w4
  head : HB w4 hb r0 n (.slice (some ⟨g, 0, none⟩) L cap)
  own : OwnE EP w4 0 (.slice (some ⟨g, 0, none⟩) L cap) ps
  node : NdAt w4 (.node k r m is a b) (.pointer (some ⟨nb, 0, none⟩)) ft
  mem : nb ∈ ft ∧ gi ∈ ft
  nodup : f.Nodup
  perm : f.Perm (hb :: g :: (ft ++ fr))
  rest : ∀ (w' : World) (F : Nat → Prop), Chg F w4 w' → (∀ j ∈ fr, ¬ F j) → (∀ t' ft', NdAt w' t' (.pointer (some ⟨nb, 0, none⟩)) ft' → TsAt w' (ts.set at_ t') ps (ft' ++ fr)) ∧ TsAt w' (ts.eraseIdx at_) (ps.eraseIdx at_) fr
  lts : ∀ j ∈ f, j < w.heap.size
  res : w4.heap[w.heap.size]? = some (.cells #[.int .i64 0, .int .i64 0] 30 (0, 0))
  item : w4.heap[w.heap.size + 1]? = some (.cells #[.int .i64 x0, .int .i64 x1] 30 (0, 0))
section
variable {w w4 : World} {hb r0 n : Nat} {ts : List SN} {f : List Nat} {at_ : Nat} {k : Int} {r m : Nat} {x0 x1 : Int} {is : List (Int × Int)} {a b : SN} {g L cap nb gi li ci : Nat} {ps : List (Option Addr)} {ft fr : List Nat}
theorem PopB.out (h : PopB w w4 hb r0 n ts f at_ k r m x0 x1 is a b g L cap nb gi ps ft fr) : (∀ j ∈ ft, j < w.heap.size ∧ j ≠ hb ∧ j ≠ g ∧ j ∉ fr) ∧ hb ≠ g ∧ hb ∉ fr ∧ g ∉ fr ∧ hb < w.heap.size ∧ g < w.heap.size ∧ (∀ j ∈ fr, j < w.heap.size) ∧ w.heap.size + 1 < w4.heap.size := by
  have n0 := nodup_perm h.nodup h.perm
  obtain ⟨n1, n2⟩ := List.nodup_cons.1 n0
  obtain ⟨n3, n4⟩ := List.nodup_cons.1 n2
  have d := dj_of n4
  have hm : ∀ j, j ∈ hb :: g :: (ft ++ fr) → j < w.heap.size := fun j z => h.lts j (h.perm.symm.subset z)
  refine ⟨fun j z => ⟨hm j (by simp [z]), fun e => n1 (by simp [← e, z]), fun e => n3 (by simp [← e, z]), d j z⟩, fun e => n1 (by simp [e]), fun z => n1 (by simp [z]), fun z => n3 (by simp [z]), hm _ (by simp), hm _ (by simp), fun j z => hm j (by simp [z]), (Array.getElem?_eq_some_iff.1 h.item).1⟩
/-- The first item is taken. -/
theorem PopA.cut {li ci : Nat} {pa pb : Option Addr} {fa fb : List Nat} (h : PopA w hb r0 n ts f at_ k r m x0 x1 is a b g L cap nb gi li ci pa pb ps fa fb fr) (hf : f.Nodup) (hlt : ∀ j ∈ f, j < w.heap.size) {W w3 : World} (hW : Below w.heap.size w W) (hres : W.heap[w.heap.size]? = some (.cells #[.int .i64 0, .int .i64 0] 30 (0, 0))) (hit : W.heap[w.heap.size + 1]? = some (.cells #[.int .i64 x0, .int .i64 x1] 30 (0, 0)))
    (hg : W.grownBy w3 (some gi)) {l3 c3 : Nat} (ho : OwnE EI w3 0 (.slice (some ⟨gi, 0, none⟩) l3 c3) is) :
    Nb w3 nb (.slice (some ⟨gi, 0, none⟩) li ci) k r m (.pointer pa) (.pointer pb) ∧ Nb (w3.setCell ⟨nb, 0, none⟩ (.slice (some ⟨gi, 0, none⟩) l3 c3)) nb (.slice (some ⟨gi, 0, none⟩) l3 c3) k r m (.pointer pa) (.pointer pb) ∧
      PopB w (w3.setCell ⟨nb, 0, none⟩ (.slice (some ⟨gi, 0, none⟩) l3 c3)) hb r0 n ts f at_ k r m x0 x1 is a b g L cap nb gi ps (nb :: ([gi] ++ (fa ++ fb))) fr := by
  have n0 := nodup_perm hf h.perm
  obtain ⟨n1, n2⟩ := List.nodup_cons.1 n0
  obtain ⟨n3, n4⟩ := List.nodup_cons.1 n2
  have d := dj_of n4
  obtain ⟨⟨m1, m2, m3⟩, m4, m5, m6, m7, m8, m9⟩ := nd4.1 (List.nodup_append.1 n4).1
  have hm : ∀ j, j ∈ hb :: g :: ((nb :: ([gi] ++ (fa ++ fb))) ++ fr) → j < w.heap.size := fun j z => hlt j (h.perm.symm.subset z)
  have l1 := hm hb (by simp)
  have l2 := hm g (by simp)
  have l3' := hm nb (by simp)
  have l4 := hm gi (by simp)
  have hne : nb ≠ gi := fun e => m1 (by simp [e])
  have c3' : Chg (· ∈ [gi]) W w3 := Chg.of_grown hg (fun k e => by simpa using e.symm)
  have c03 : Chg (· ∈ [gi]) w w3 := (Chg.of_below hW).trans c3' (fun j z => Or.inl z)
  have k1 := h.node.kept (c03.block nb l3' (by simpa using hne))
  have c34 : Chg (· ∈ [nb]) w3 (w3.setCell ⟨nb, 0, none⟩ (.slice (some ⟨gi, 0, none⟩) l3 c3)) := (Chg.refl _ w3).setCell (p := ⟨nb, 0, none⟩) (Or.inl (by simp)) _
  have c04 : Chg (· ∈ [nb, gi]) w (w3.setCell ⟨nb, 0, none⟩ (.slice (some ⟨gi, 0, none⟩) l3 c3)) := (c03.mono (fun j z => Or.inl (List.mem_cons_of_mem _ z))).trans c34 (fun j z => Or.inl (by rw [List.mem_singleton.1 z]; simp))
  have hin : ∀ j ∈ [nb, gi], j ∈ nb :: ([gi] ++ (fa ++ fb)) := fun j z => by
    rcases List.mem_cons.1 z with rfl | z
    · simp
    · rw [List.mem_singleton.1 z]; simp
  have hbg : ∀ j ∈ [nb, gi], j ≠ hb ∧ j ≠ g := fun j z => ⟨fun e => n1 (by rw [← e]; exact List.mem_cons_of_mem _ (List.mem_append_left _ (hin j z))), fun e => n3 (by rw [← e]; exact List.mem_append_left _ (hin j z))⟩
  have fp : ∀ j, j ∈ fa ∨ j ∈ fb → ¬ j ∈ [nb, gi] := by
    intro j z z2
    rcases List.mem_cons.1 z2 with rfl | z2
    · rcases z with z | z
      · exact m2 z
      · exact m3 z
    · rcases z with z | z
      · exact m7 gi (by simp) (by rw [← List.mem_singleton.1 z2]; exact z)
      · exact m8 gi (by simp) (by rw [← List.mem_singleton.1 z2]; exact z)
  refine ⟨k1, k1.put0 _, c04, h.head.kept (c04.block hb l1 (fun z => (hbg hb z).1 rfl)), own_kept h.own c04 (fun j z z2 => ?_), nd_node.2 ⟨nb, _, _, _, [gi], fa, fb, rfl, k1.put0 _, ⟨?_, rfl⟩, h.left.kept c04 (fun j z => fp j (Or.inl z)), h.right.kept c04 (fun j z => fp j (Or.inr z)), List.Perm.refl _⟩, ⟨by simp, by simp⟩, hf, h.perm, fun w' F hc hF => ?_, hlt, ?_, ?_⟩
  · have e : j = g := by simpa [Value.ownBlock] using z
    exact (hbg j z2).2 e
  · exact (ItsAt.kept (fi := [gi]) ⟨ho, rfl⟩ c34 (fun j z z2 => hne ((List.mem_singleton.1 z2).symm.trans (List.mem_singleton.1 z)))).1
  · exact h.rest w' (fun j => j ∈ [nb, gi] ∨ F j) ((c04.mono (fun j z => Or.inl (Or.inl z))).trans hc (fun j z => Or.inl (Or.inr z))) (fun j z z2 => by rcases z2 with z2 | z2; exact d j (hin j z2) z; exact hF j z z2)
  · rw [heap_far _ (by omega)]
    exact (c3'.block _ (Array.getElem?_eq_some_iff.1 hres).1 (by simp; omega)).trans hres
  · rw [heap_far _ (by omega)]
    exact (c3'.block _ (Array.getElem?_eq_some_iff.1 hit).1 (by simp; omega)).trans hit
/-- The tree stays, or is filled. -/
theorem PopB.stays (h : PopB w w4 hb r0 n ts f at_ k r m x0 x1 is a b g L cap nb gi ps ft fr) {w5 : World} {t' : SN} {ft' : List Nat} (hs : Step ft ft' w4 w5) (ht : NdAt w5 t' (.pointer (some ⟨nb, 0, none⟩)) ft') :
    w5.heap[w.heap.size]? = some (.cells #[.int .i64 0, .int .i64 0] 30 (0, 0)) ∧ w5.heap[w.heap.size + 1]? = some (.cells #[.int .i64 x0, .int .i64 x1] 30 (0, 0)) ∧
      ∀ u v, ∃ f', HAt ((w5.setCell ⟨w.heap.size, 0, none⟩ u).setCell ⟨w.heap.size, 1, none⟩ v) hb r0 n (ts.set at_ t') f' ∧ Step f f' w ((w5.setCell ⟨w.heap.size, 0, none⟩ u).setCell ⟨w.heap.size, 1, none⟩ v) := by
  obtain ⟨o1, o2, o3, o4, o5, o6, o7, o8⟩ := h.out
  refine ⟨(hs.chg.block _ (by omega) (fun z => ?_)).trans h.res, (hs.chg.block _ (by omega) (fun z => ?_)).trans h.item, fun u v => ?_⟩
  · have := (o1 _ z).1; omega
  · have := (o1 _ z).1; omega
  · have cN : Chg (· ∈ [w.heap.size]) w5 ((w5.setCell ⟨w.heap.size, 0, none⟩ u).setCell ⟨w.heap.size, 1, none⟩ v) := ((Chg.refl _ w5).setCell (p := ⟨w.heap.size, 0, none⟩) (Or.inl (by simp)) u).setCell (p := ⟨w.heap.size, 1, none⟩) (Or.inl (by simp)) v
    have c6 : Chg (fun j => j ∈ ft ∨ j = w.heap.size) w4 ((w5.setCell ⟨w.heap.size, 0, none⟩ u).setCell ⟨w.heap.size, 1, none⟩ v) := (hs.chg.mono (fun j z => Or.inl (Or.inl z))).trans cN (fun j z => Or.inl (Or.inr (List.mem_singleton.1 z)))
    have hft' : ∀ j ∈ ft', j ≠ w.heap.size ∧ j ≠ hb ∧ j ≠ g ∧ j ∉ fr := by
      intro j z
      rcases hs.sub j z with q | q
      · obtain ⟨p1, p2, p3, p4⟩ := o1 j q; exact ⟨by omega, p2, p3, p4⟩
      · exact ⟨by omega, by omega, by omega, fun y => by have := o7 j y; omega⟩
    have t6 := ht.kept cN (fun j z z2 => (hft' j z).1 (List.mem_singleton.1 z2))
    have r6 := (h.rest _ _ c6 (fun j z z2 => by rcases z2 with z2 | z2; exact (o1 j z2).2.2.2 z; have := o7 j z; omega)).1 _ _ t6
    have nd : (hb :: g :: (ft' ++ fr)).Nodup := by
      have n0 := nodup_perm h.nodup h.perm
      have n4 := (List.nodup_cons.1 (List.nodup_cons.1 n0).2).2
      refine List.nodup_cons.2 ⟨fun z => ?_, List.nodup_cons.2 ⟨fun z => ?_, List.nodup_append.2 ⟨hs.nodup, (List.nodup_append.1 n4).2.1, fun x z y z2 e => (hft' x z).2.2.2 (e ▸ z2)⟩⟩⟩
      · rcases List.mem_cons.1 z with z | z
        · exact o2 z
        · rcases List.mem_append.1 z with z | z
          · exact (hft' _ z).2.1 rfl
          · exact o3 z
      · rcases List.mem_append.1 z with z | z
        · exact (hft' _ z).2.2.1 rfl
        · exact o4 z
    refine ⟨hb :: ([g] ++ (ft' ++ fr)), ⟨_, ps, ft' ++ fr, h.head.kept (c6.block hb h.head.lt (fun z => ?_)), own_kept h.own c6 (fun j z z2 => ?_), r6, List.Perm.refl _⟩, nd, fun j z => ?_, ?_⟩
    · rcases z with z | z
      · exact (o1 _ z).2.1 rfl
      · omega
    · have e : j = g := by simpa [Value.ownBlock] using z
      subst e
      rcases z2 with z2 | z2
      · exact (o1 _ z2).2.2.1 rfl
      · omega
    · replace z : j ∈ hb :: g :: (ft' ++ fr) := z
      rcases List.mem_cons.1 z with rfl | z
      · exact Or.inl (h.perm.symm.subset (by simp))
      · rcases List.mem_cons.1 z with rfl | z
        · exact Or.inl (h.perm.symm.subset (by simp))
        · rcases List.mem_append.1 z with z | z
          · rcases hs.sub j z with q | q
            · exact Or.inl (h.perm.symm.subset (by simp [q]))
            · exact Or.inr (Nat.le_trans h.chg.size q)
          · exact Or.inl (h.perm.symm.subset (by simp [z]))
    · refine (h.chg.mono (fun j z => Or.inl (h.perm.symm.subset ?_))).trans c6 (fun j z => ?_)
      · rcases List.mem_cons.1 z with rfl | z
        · simp [h.mem.1]
        · rw [List.mem_singleton.1 z]; simp [h.mem.2]
      · rcases z with z | z
        · exact Or.inl (h.perm.symm.subset (by simp [z]))
        · exact Or.inr (by omega)
/-- The tree goes. -/
theorem PopB.goes (h : PopB w w4 hb r0 n ts f at_ k r m x0 x1 is a b g L cap nb gi ps ft fr) {w5 : World} {L' cap' : Nat} (hg : w4.grownBy w5 (some g)) (ho : OwnE EP w5 0 (.slice (some ⟨g, 0, none⟩) L' cap') (ps.eraseIdx at_)) :
    w5.heap[w.heap.size]? = some (.cells #[.int .i64 0, .int .i64 0] 30 (0, 0)) ∧ w5.heap[w.heap.size + 1]? = some (.cells #[.int .i64 x0, .int .i64 x1] 30 (0, 0)) ∧ HB w5 hb r0 n (.slice (some ⟨g, 0, none⟩) L cap) ∧
      ∀ u v, ∃ f', HAt (((w5.setCell ⟨hb, 2, none⟩ (.slice (some ⟨g, 0, none⟩) L' cap')).setCell ⟨w.heap.size, 0, none⟩ u).setCell ⟨w.heap.size, 1, none⟩ v) hb r0 n (ts.eraseIdx at_) f' ∧ Step f f' w (((w5.setCell ⟨hb, 2, none⟩ (.slice (some ⟨g, 0, none⟩) L' cap')).setCell ⟨w.heap.size, 0, none⟩ u).setCell ⟨w.heap.size, 1, none⟩ v) := by
  obtain ⟨o1, o2, o3, o4, o5, o6, o7, o8⟩ := h.out
  have c5 : Chg (· ∈ [g]) w4 w5 := Chg.of_grown hg (fun k e => by simpa using e.symm)
  have h5 : HB w5 hb r0 n (.slice (some ⟨g, 0, none⟩) L cap) := h.head.kept (c5.block hb h.head.lt (by simpa using o2))
  refine ⟨(c5.block _ (by omega) (by simp; omega)).trans h.res, (c5.block _ (by omega) (by simp; omega)).trans h.item, h5, fun u v => ?_⟩
  have cN : Chg (fun j => j = hb ∨ j = w.heap.size) w5 (((w5.setCell ⟨hb, 2, none⟩ (.slice (some ⟨g, 0, none⟩) L' cap')).setCell ⟨w.heap.size, 0, none⟩ u).setCell ⟨w.heap.size, 1, none⟩ v) := (((Chg.refl _ w5).setCell (p := ⟨hb, 2, none⟩) (Or.inl (Or.inl rfl)) _).setCell (p := ⟨w.heap.size, 0, none⟩) (Or.inl (Or.inr rfl)) u).setCell (p := ⟨w.heap.size, 1, none⟩) (Or.inl (Or.inr rfl)) v
  have c6 : Chg (fun j => j = g ∨ j = hb ∨ j = w.heap.size) w4 (((w5.setCell ⟨hb, 2, none⟩ (.slice (some ⟨g, 0, none⟩) L' cap')).setCell ⟨w.heap.size, 0, none⟩ u).setCell ⟨w.heap.size, 1, none⟩ v) := (c5.mono (fun j z => Or.inl (Or.inl (List.mem_singleton.1 z)))).trans cN (fun j z => Or.inl (Or.inr z))
  have r6 := (h.rest _ _ c6 (fun j z z2 => by rcases z2 with rfl | rfl | rfl; exact o4 z; exact o3 z; have := o7 _ z; omega)).2
  have hne : hb ≠ w.heap.size := by omega
  have h6 : HB (((w5.setCell ⟨hb, 2, none⟩ (.slice (some ⟨g, 0, none⟩) L' cap')).setCell ⟨w.heap.size, 0, none⟩ u).setCell ⟨w.heap.size, 1, none⟩ v) hb r0 n (.slice (some ⟨g, 0, none⟩) L' cap') := ((h5.put2 _).kept (heap_far u hne)).kept (heap_far v hne)
  have nd : (hb :: g :: fr).Nodup := by
    have n0 := nodup_perm h.nodup h.perm
    have n4 := (List.nodup_cons.1 (List.nodup_cons.1 n0).2).2
    exact List.nodup_cons.2 ⟨fun z => by rcases List.mem_cons.1 z with z | z; exact o2 z; exact o3 z, List.nodup_cons.2 ⟨o4, (List.nodup_append.1 n4).2.1⟩⟩
  refine ⟨hb :: ([g] ++ fr), ⟨_, _, fr, h6, own_kept ho cN (fun j z z2 => ?_), r6, List.Perm.refl _⟩, nd, fun j z => Or.inl (h.perm.symm.subset ?_), ?_⟩
  · have e : j = g := by simpa [Value.ownBlock] using z
    subst e
    rcases z2 with z2 | z2
    · exact o2 z2.symm
    · omega
  · replace z : j ∈ hb :: g :: fr := z
    rcases List.mem_cons.1 z with rfl | z
    · simp
    · rcases List.mem_cons.1 z with rfl | z
      · simp
      · simp [z]
  · refine (h.chg.mono (fun j z => Or.inl (h.perm.symm.subset ?_))).trans c6 (fun j z => ?_)
    · rcases List.mem_cons.1 z with rfl | z
      · simp [h.mem.1]
      · rw [List.mem_singleton.1 z]; simp [h.mem.2]
    · rcases z with rfl | rfl | rfl
      · exact Or.inl (h.perm.symm.subset (by simp))
      · exact Or.inl (h.perm.symm.subset (by simp))
      · exact Or.inr (Nat.le_refl _)
end
end Go.Proofs.YtdpfijhkbhmkgaaDoor
