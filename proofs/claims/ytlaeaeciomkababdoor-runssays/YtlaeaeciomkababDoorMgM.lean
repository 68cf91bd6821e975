/-
  Package runs: what merged keeps in memory: the numbers so far, and the queue of what is left of the runs.
-/
import Derived.Test.YtlaeaeciomkababDoorMgP
import Derived.Test.YtlaeaeciomkababDoorRnM
import Derived.Test.YtlaeaeciomkababDoorHDV
namespace Go.Proofs.YtlaeaeciomkababDoor
open Go.RowKit Go.Sort Go.Proofs

def cutS (s : Sv) (o : Nat) : Sv := (s.1.map fun a => ⟨a.block, a.off + o, none⟩, s.2.1 - o, s.2.2 - o)
def tbS (ss : List Sv) (c : Int) : Sv := cutS (ss.getD (c.toNat / 64) (none, 0, 0)) (c.toNat % 64)
/-- The words ss are those of the lists ls. -/
def RunsIn (w : World) (ss : List Sv) (ls : List (List Int)) : Prop := ss.length = ls.length ∧ ∀ (i : Nat) (s : Sv) (l : List Int), ss[i]? = some s → ls[i]? = some l → SlE EZ w (svV s) l
theorem runs_at {w : World} {ss : List Sv} {ls : List (List Int)} (h : RunsIn w ss ls) {i : Nat} {l : List Int} (hi : ls[i]? = some l) (hl : 0 < l.length) : ∃ b o k, ss[i]? = some (some ⟨b, o, none⟩, l.length, k) ∧ l.length ≤ k ∧ RdE EZ w b o l := by
  have hlt : i < ss.length := by rw [h.1]; exact (List.getElem?_eq_some_iff.1 hi).1
  obtain ⟨⟨q, n, k⟩, hs⟩ : ∃ s, ss[i]? = some s := ⟨_, List.getElem?_eq_getElem hlt⟩
  have hz := h.2 i _ l hs hi
  unfold svV at hz
  simp only at hz
  obtain ⟨rfl, hk⟩ := hz.len
  obtain ⟨b, o, rfl, _, _, hr⟩ := hz.some hl
  exact ⟨b, o, k, hs, hk, hr⟩
theorem tb_at {w : World} {ss : List Sv} {ls : List (List Int)} (h : RunsIn w ss ls) {c a : Int} {t : List Int} (he : restL ls c = a :: t) :
    ∃ b o k, tbS ss c = (some ⟨b, o, none⟩, t.length + 1, k) ∧ t.length + 1 ≤ k ∧ RdE EZ w b o (a :: t) := by
  unfold restL at he
  rw [List.getD_eq_getElem?_getD] at he
  cases q : ls[c.toNat / 64]? with
  | none => rw [q] at he; simp at he
  | some l =>
    rw [q] at he
    simp only [Option.getD_some] at he
    have hlen := congrArg List.length he
    rw [List.length_drop, List.length_cons] at hlen
    obtain ⟨b, o, k, hs, hk, hr⟩ := runs_at h q (by omega)
    refine ⟨b, o + c.toNat % 64, k - c.toNat % 64, ?_, by omega, ?_⟩
    · unfold tbS cutS
      rw [List.getD_eq_getElem?_getD, hs]
      simp only [Option.getD_some, Option.map_some]
      rw [hlen]
    · have := hr.part (c.toNat % 64) (ys := a :: t) (zs := []) (by rw [he, List.append_nil])
      simpa [EZ] using this
theorem tb_next {ss : List Sv} {c : Int} {b o n k : Nat} (hc : 0 ≤ c) (hm : c.toNat % 64 + 1 < 64) (h : tbS ss c = (some ⟨b, o, none⟩, n, k)) : tbS ss (c + 1) = (some ⟨b, o + 1, none⟩, n - 1, k - 1) := by
  unfold tbS cutS at *
  have e1 : (c + 1).toNat = c.toNat + 1 := by omega
  rw [e1, show (c.toNat + 1) / 64 = c.toNat / 64 by omega, show (c.toNat + 1) % 64 = c.toNat % 64 + 1 by omega]
  generalize ss.getD (c.toNat / 64) (none, 0, 0) = s at *
  obtain ⟨p, n', k'⟩ := s
  simp only [Prod.mk.injEq] at h ⊢
  obtain ⟨h1, h2, h3⟩ := h
  cases p with
  | none => simp at h1
  | some a =>
    simp only [Option.map_some, Option.some.injEq, Addr.mk.injEq, and_true] at h1 ⊢
    omega
theorem tb_first {w : World} {ss : List Sv} {ls : List (List Int)} (h : RunsIn w ss ls) {i : Nat} {l : List Int} (hi : ls[i]? = some l) (hl : 0 < l.length) : ∃ b o k, tbS ss ((i * 64 : Nat) : Int) = (some ⟨b, o, none⟩, l.length, k) ∧ ss[i]? = some (some ⟨b, o, none⟩, l.length, k) := by
  obtain ⟨b, o, k, hs, hk, hr⟩ := runs_at h hi hl
  refine ⟨b, o, k, ?_, hs⟩
  unfold tbS cutS
  rw [show ((i * 64 : Nat) : Int).toNat = i * 64 by omega, show i * 64 / 64 = i by omega, show i * 64 % 64 = 0 by omega, List.getD_eq_getElem?_getD, hs]
  simp
theorem kv_of {w W : World} {ss : List Sv} {ls : List (List Int)} {g : Nat} {x : Int × Int} (h : RunsIn w ss ls) (hb : Below w.heap.size w W) (hg : w.heap.size ≤ g) (hx : GV ls x) : KV (tbS ss) W g x := by
  obtain ⟨b, o, k, e, hk, hr⟩ := tb_at h (gv_cons hx)
  have hr2 := hr.below hb hr.1
  have c0 := hr2.int (i := 0) (k := x.1) (by simp)
  have := hr.1
  exact ⟨b, o, _, k, e, by omega, by omega, hr2.1, by simpa using c0⟩

def MergM (W : World) (ob pb qb : Nat) (ss : List Sv) (out : List Int) (d : Array (Int × Int)) (f : List Nat) : Prop :=
  ∃ v fq, W.heap[ob]? = some (.cells #[v] 22 (0, 0)) ∧ W.heap[pb]? = some (.cells #[.pointer (some ⟨qb, 0, none⟩)] 102 (0, 0)) ∧
    QE EV 140 W qb 61 (d.toList.map (valV (tbS ss))) fq ∧ OwnE EZ W 0 v out ∧ f = ob :: pb :: (fq ++ v.ownBlock.toList) ∧ f.Nodup
section
variable {W W' : World} {ob pb qb : Nat} {ss : List Sv} {out : List Int} {d : Array (Int × Int)} {f : List Nat}
theorem MergM.lt (h : MergM W ob pb qb ss out d f) : ∀ j ∈ f, j < W.heap.size := by
  obtain ⟨v, fq, h1, h2, h3, h4, rfl, _⟩ := h
  intro j hj
  rcases List.mem_cons.1 hj with rfl | z
  · exact box_lt h1
  · rcases List.mem_cons.1 z with rfl | z
    · exact box_lt h2
    · rcases List.mem_append.1 z with z | z
      · exact h3.lt j z
      · exact own_lt h4 j z
theorem MergM.nodup (h : MergM W ob pb qb ss out d f) : f.Nodup := by
  obtain ⟨v, fq, h1, h2, h3, h4, rfl, hn⟩ := h
  exact hn
theorem MergM.kept {F : Nat → Prop} (h : MergM W ob pb qb ss out d f) (hc : Chg F W W') (hf : ∀ j ∈ f, ¬ F j) : MergM W' ob pb qb ss out d f := by
  obtain ⟨v, fq, h1, h2, h3, h4, rfl, hn⟩ := h
  refine ⟨v, fq, (hc.block ob (box_lt h1) (hf ob (by simp))).trans h1, (hc.block pb (box_lt h2) (hf pb (by simp))).trans h2, h3.kept hc fun j z => hf j ?_, own_kept h4 hc fun j z => hf j ?_, rfl, hn⟩
  · exact List.mem_cons_of_mem _ (List.mem_cons_of_mem _ (List.mem_append_left _ z))
  · exact List.mem_cons_of_mem _ (List.mem_cons_of_mem _ (List.mem_append_right _ z))
theorem MergM.below (h : MergM W ob pb qb ss out d f) (hb : Below W.heap.size W W') : MergM W' ob pb qb ss out d f := h.kept (F := fun _ => False) (Chg.of_below hb) (fun _ _ q => q)
theorem MergM.cellsAt (h : MergM W ob pb qb ss out d f) : ∀ j ∈ f, ∃ o, W.heap[j]? = some o ∧ o.isCells = true := by
  obtain ⟨v, fq, h1, h2, h3, h4, rfl, _⟩ := h
  intro j hj
  rcases List.mem_cons.1 hj with rfl | z
  · exact ⟨_, h1, rfl⟩
  · rcases List.mem_cons.1 z with rfl | z
    · exact ⟨_, h2, rfl⟩
    · rcases List.mem_append.1 z with z | z
      · exact qe_cellsV h3 j z
      · exact own_cellsZ h4 j z
end
/-- Another queue. -/
theorem MergM.queue {W W' : World} {ob pb qb : Nat} {ss : List Sv} {out : List Int} {d d' : Array (Int × Int)} {v : Value} {fq fq' : List Nat} (h1 : W.heap[ob]? = some (.cells #[v] 22 (0, 0)))
    (h2 : W.heap[pb]? = some (.cells #[.pointer (some ⟨qb, 0, none⟩)] 102 (0, 0))) (h3 : QE EV 140 W qb 61 (d.toList.map (valV (tbS ss))) fq) (h4 : OwnE EZ W 0 v out)
    (hn : (ob :: pb :: (fq ++ v.ownBlock.toList)).Nodup) (q : QE EV 140 W' qb 61 (d'.toList.map (valV (tbS ss))) fq') (s : Step fq fq' W W') :
    MergM W' ob pb qb ss out d' (ob :: pb :: (fq' ++ v.ownBlock.toList)) ∧ Step (ob :: pb :: (fq ++ v.ownBlock.toList)) (ob :: pb :: (fq' ++ v.ownBlock.toList)) W W' := by
  have hlt : ∀ j ∈ ob :: pb :: (fq ++ v.ownBlock.toList), j < W.heap.size := MergM.lt ⟨v, fq, h1, h2, h3, h4, rfl, hn⟩
  obtain ⟨n1, n2⟩ := List.nodup_cons.1 hn
  obtain ⟨n3, n4⟩ := List.nodup_cons.1 n2
  obtain ⟨n5, n6, n7⟩ := List.nodup_append.1 n4
  have hnp := nodup_mid n2 (fun j hj => hlt j (List.mem_cons_of_mem _ hj)) s.nodup s.sub
  have hnf : (ob :: pb :: (fq' ++ v.ownBlock.toList)).Nodup := by
    refine List.nodup_cons.2 ⟨fun z => ?_, hnp⟩
    rcases List.mem_cons.1 z with e | z
    · exact n1 (by rw [e]; exact List.mem_cons_self)
    · rcases List.mem_append.1 z with z | z
      · rcases s.sub ob z with t | t
        · exact n1 (List.mem_cons_of_mem _ (List.mem_append_left _ t))
        · have := box_lt h1; omega
      · exact n1 (List.mem_cons_of_mem _ (List.mem_append_right _ z))
  refine ⟨⟨v, fq', (s.chg.block ob (box_lt h1) fun z => n1 (List.mem_cons_of_mem _ (List.mem_append_left _ z))).trans h1, (s.chg.block pb (box_lt h2) fun z => n3 (List.mem_append_left _ z)).trans h2, q, own_kept h4 s.chg fun j hj z => n7 j z j hj rfl, rfl, hnf⟩,
    hnf, fun j hj => ?_, s.chg.mono fun j z => Or.inl (List.mem_cons_of_mem _ (List.mem_cons_of_mem _ (List.mem_append_left _ z)))⟩
  rcases List.mem_cons.1 hj with rfl | z
  · exact Or.inl List.mem_cons_self
  · rcases List.mem_cons.1 z with rfl | z
    · exact Or.inl (List.mem_cons_of_mem _ List.mem_cons_self)
    · rcases List.mem_append.1 z with z | z
      · exact (s.sub j z).imp_left fun t => List.mem_cons_of_mem _ (List.mem_cons_of_mem _ (List.mem_append_left _ t))
      · exact Or.inl (List.mem_cons_of_mem _ (List.mem_cons_of_mem _ (List.mem_append_right _ z)))
/-- What the queue's comparisons may read lies below. -/
theorem merg_cmp {w W : World} {ss : List Sv} {ls : List (List Int)} (hr : RunsIn w ss ls) {f : List Nat} (hb : Below w.heap.size w W) (hf : ∀ j ∈ f, w.heap.size ≤ j) {d : Array (Int × Int)} (hg : AllP (GV ls) d) (w2 : World) (g : Nat) (hgf : w.heap.size ≤ g) (hc : Chg (· ∈ f) W w2) :
    ∃ P : Int × Int → Prop, AllP P d ∧ CmpV (tbS ss) P w2 g :=
  ⟨KV (tbS ss) w2 g, hg.mono fun _ hx => kv_of hr (hb.trans (hc.below hf hb.size)) hgf hx, cmpV_any _ _ _⟩
theorem merg_push {w W : World} {ss : List Sv} {ls : List (List Int)} (hr : RunsIn w ss ls) {ob pb qb : Nat} {out : List Int} {d : Array (Int × Int)} {f : List Nat} {x : Int × Int} (h : MergM W ob pb qb ss out d f) (hb : Below w.heap.size w W) (hf : ∀ j ∈ f, w.heap.size ≤ j) (hs : d.size ≤ 500) (hg : AllP (GV ls) d) (hx : GV ls x) :
    Calls Tryd.prog 62 #[.pointer (some ⟨qb, 0, none⟩), vV (tbS ss) x] W fun e w' => e = .returned (.tuple #[]) ∧ ∃ f', MergM w' ob pb qb ss out (hpush d x) f' ∧ Step f f' W w' := by
  obtain ⟨v, fq, h1, h2, h3, h4, rfl, hn⟩ := h
  have n4 := (List.nodup_cons.1 (List.nodup_cons.1 hn).2).2
  have hfq : ∀ j ∈ fq, w.heap.size ≤ j := fun j hj => hf j (List.mem_cons_of_mem _ (List.mem_cons_of_mem _ (List.mem_append_left _ hj)))
  refine (qPushV h3 (List.nodup_append.1 n4).1 hs fun w2 g hg2 hc => merg_cmp hr hb hfq (hg.push hx) w2 g (by
    rcases hg2 with z | z
    · exact hfq g z
    · exact Nat.le_trans hb.size z) hc).mono ?_
  rintro e w' ⟨he, f', q, s⟩
  exact ⟨he, _, MergM.queue h1 h2 h3 h4 hn q s⟩
/-- One more number. -/
theorem MergM.append {W wA w1 : World} {ob pb qb : Nat} {ss : List Sv} {out : List Int} {d : Array (Int × Int)} {v v1 : Value} {fq : List Nat} {c : Int} (h1 : W.heap[ob]? = some (.cells #[v] 22 (0, 0)))
    (h2 : W.heap[pb]? = some (.cells #[.pointer (some ⟨qb, 0, none⟩)] 102 (0, 0))) (h3 : QE EV 140 W qb 61 (d.toList.map (valV (tbS ss))) fq) (h4 : OwnE EZ W 0 v out)
    (hn : (ob :: pb :: (fq ++ v.ownBlock.toList)).Nodup) (hb : Below W.heap.size W wA) (a1 : OwnE EZ w1 0 v1 (out ++ [c])) (a2 : wA.grownBy w1 v.ownBlock) (a3 : v1.ownBlock = v.ownBlock ∨ v1.ownBlock = some wA.heap.size) :
    w1.cell? ⟨ob, 0, none⟩ = some v ∧ w1.frozen? ⟨ob, 0, none⟩ = false ∧ MergM (w1.setCell ⟨ob, 0, none⟩ v1) ob pb qb ss (out ++ [c]) d (ob :: pb :: (fq ++ v1.ownBlock.toList)) ∧
      Step (ob :: pb :: (fq ++ v.ownBlock.toList)) (ob :: pb :: (fq ++ v1.ownBlock.toList)) W (w1.setCell ⟨ob, 0, none⟩ v1) := by
  have hlt : ∀ j ∈ ob :: pb :: (fq ++ v.ownBlock.toList), j < W.heap.size := MergM.lt ⟨v, fq, h1, h2, h3, h4, rfl, hn⟩
  have hc1 : Chg (· ∈ v.ownBlock.toList) W w1 := (Chg.of_below hb).trans (Chg.of_grown (F := (· ∈ v.ownBlock.toList)) a2 fun k e => by rw [e]; simp) fun j q => Or.inl q
  obtain ⟨n1, n2⟩ := List.nodup_cons.1 hn
  obtain ⟨n3, n4⟩ := List.nodup_cons.1 n2
  obtain ⟨n5, n6, n7⟩ := List.nodup_append.1 n4
  have hob : w1.heap[ob]? = some (.cells #[v] 22 (0, 0)) := (hc1.block ob (box_lt h1) fun z => n1 (List.mem_cons_of_mem _ (List.mem_append_right _ z))).trans h1
  have hpb : w1.heap[pb]? = some (.cells #[.pointer (some ⟨qb, 0, none⟩)] 102 (0, 0)) := (hc1.block pb (box_lt h2) fun z => n3 (List.mem_append_right _ z)).trans h2
  have hq1 : QE EV 140 w1 qb 61 (d.toList.map (valV (tbS ss))) fq := h3.kept hc1 fun j hj z => n7 j hj j z rfl
  obtain ⟨m1, m2⟩ := nodup_swap (A := ob :: pb :: fq) (x := v.ownBlock) (y := v1.ownBlock) (B := []) (m := W.heap.size) (by simpa using hn) (fun j hj => hlt j (by simpa using hj)) (a3.imp_right fun e => ⟨_, e, hb.size⟩)
  rw [List.append_nil] at m1 m2
  have hov : ob ∉ v1.ownBlock.toList := fun z => (List.nodup_cons.1 (show (ob :: (pb :: fq ++ v1.ownBlock.toList)).Nodup from m1)).1 (List.mem_append_right _ z)
  have hc2 : Chg (· = ob) w1 (w1.setCell ⟨ob, 0, none⟩ v1) := (Chg.refl (· = ob) w1).setCell (p := ⟨ob, 0, none⟩) (Or.inl rfl) _
  have hob2 : (w1.setCell ⟨ob, 0, none⟩ v1).heap[ob]? = some (.cells #[v1] 22 (0, 0)) := by
    have := heap_put (i := 0) hob v1
    simpa using this
  refine ⟨by simp [World.cell?, hob], by simp [World.frozen?, hob], ⟨v1, fq, hob2, (hc2.block pb (box_lt hpb) fun e => n1 (by rw [← e]; exact List.mem_cons_self)).trans hpb, hq1.kept hc2 fun j hj e => n1 (by rw [← e]; exact List.mem_cons_of_mem _ (List.mem_append_left _ hj)),
    own_kept a1 hc2 fun j hj e => hov (by rw [← e]; exact hj), rfl, m1⟩, m1, fun j hj => ?_, (hc1.mono (G := (· ∈ ob :: pb :: (fq ++ v.ownBlock.toList))) fun j z => Or.inl (List.mem_cons_of_mem _ (List.mem_cons_of_mem _ (List.mem_append_right _ z)))).setCell (p := ⟨ob, 0, none⟩) (Or.inl List.mem_cons_self) _⟩
  have := m2 j hj
  simpa using this
#print axioms merg_push
#print axioms MergM.append
end Go.Proofs.YtlaeaeciomkababDoor
