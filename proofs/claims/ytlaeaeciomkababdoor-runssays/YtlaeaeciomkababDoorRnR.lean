/-
  Lists of lists of one's own in memory: one more list, one more number in a list.
-/
import Derived.Test.YtlaeaeciomkababDoorElV
import Derived.Test.YtlaeaeciomkababDoorHQ
namespace Go.Proofs.YtlaeaeciomkababDoor
open Go.RowKit Go.Sort Go.Proofs

def svV (s : Sv) : Value := .slice s.1 s.2.1 s.2.2
def blkS (s : Sv) : List Nat := (svV s).ownBlock.toList
def blks (ss : List Sv) : List Nat := ss.flatMap blkS
theorem blks_append (a b : List Sv) : blks (a ++ b) = blks a ++ blks b := by simp [blks]
theorem blks_cons (s : Sv) (b : List Sv) : blks (s :: b) = blkS s ++ blks b := by simp [blks]
theorem mem_blks {j : Nat} {ss : List Sv} {i : Nat} {s : Sv} (h : ss[i]? = some s) (hj : j ∈ blkS s) : j ∈ blks ss := List.mem_flatMap.2 ⟨s, List.mem_of_getElem? h, hj⟩
theorem blks_mem {j : Nat} {ss : List Sv} (h : j ∈ blks ss) : ∃ (i : Nat) (s : Sv), ss[i]? = some s ∧ j ∈ blkS s := by
  obtain ⟨s, hs, hj⟩ := List.mem_flatMap.1 h
  obtain ⟨i, hi⟩ := List.getElem?_of_mem hs
  exact ⟨i, s, hi, hj⟩
/-- The lists rows lie where v says; ss are their words, f all blocks. -/
structure RowsS (w : World) (v : Value) (ss : List Sv) (rows : List (List Int)) (f : List Nat) : Prop where
  own : OwnE EV w 0 v ss
  len : ss.length = rows.length
  row : ∀ (i : Nat) (s : Sv) (r : List Int), ss[i]? = some s → rows[i]? = some r → OwnE EZ w 0 (svV s) r
  bf : f = v.ownBlock.toList ++ blks ss
section
variable {w w' : World} {v : Value} {ss : List Sv} {rows : List (List Int)} {f : List Nat}
theorem RowsS.rowOf (h : RowsS w v ss rows f) {i : Nat} {s : Sv} (hs : ss[i]? = some s) : ∃ r, rows[i]? = some r ∧ OwnE EZ w 0 (svV s) r := by
  have hi : i < rows.length := by rw [← h.len]; exact (List.getElem?_eq_some_iff.1 hs).1
  exact ⟨rows[i], List.getElem?_eq_getElem hi, h.row i s _ hs (List.getElem?_eq_getElem hi)⟩
theorem RowsS.lt (h : RowsS w v ss rows f) : ∀ j ∈ f, j < w.heap.size := by
  intro j hj
  rw [h.bf] at hj
  rcases List.mem_append.1 hj with z | z
  · exact own_lt h.own j z
  · obtain ⟨i, s, hs, hj⟩ := blks_mem z
    obtain ⟨r, _, ho⟩ := h.rowOf hs
    exact own_lt ho j hj
theorem RowsS.kept {F : Nat → Prop} (h : RowsS w v ss rows f) (hc : Chg F w w') (hf : ∀ j ∈ f, ¬ F j) : RowsS w' v ss rows f := by
  have hb := h.bf
  refine ⟨own_kept h.own hc fun j z => hf j (by rw [hb]; exact List.mem_append_left _ z), h.len, fun i s r hs hr => own_kept (h.row i s r hs hr) hc fun j z => hf j (by rw [hb]; exact List.mem_append_right _ (mem_blks hs z)), hb⟩
theorem RowsS.below (h : RowsS w v ss rows f) (hb : Below w.heap.size w w') : RowsS w' v ss rows f := h.kept (F := fun _ => False) (Chg.of_below hb) (fun _ _ q => q)
theorem RowsS.nil (w : World) : RowsS w (.slice none 0 0) [] [] [] := ⟨OwnE.nil EV w 0, rfl, fun i s r h => by simp at h, rfl⟩
theorem RowsS.ll (h : RowsS w v ss rows f) : LLAt w v rows := ⟨ss, h.own.sl, h.len, fun i s r hs hr => (h.row i s r hs hr).sl⟩
theorem RowsS.form (h : RowsS w v ss rows f) : ∃ p c, v = .slice p rows.length c := by
  obtain ⟨p, c, e⟩ := h.own.form
  exact ⟨p, c, by rw [e, h.len]⟩
end
theorem nodup_swap {A B : List Nat} {x y : Option Nat} {m : Nat} (h : (A ++ (x.toList ++ B)).Nodup) (hlt : ∀ j ∈ A ++ (x.toList ++ B), j < m) (hy : y = x ∨ ∃ k, y = some k ∧ m ≤ k) :
    (A ++ (y.toList ++ B)).Nodup ∧ ∀ j ∈ A ++ (y.toList ++ B), j ∈ A ++ (x.toList ++ B) ∨ m ≤ j := by
  rcases hy with rfl | ⟨k, rfl, hk⟩
  · exact ⟨h, fun j hj => Or.inl hj⟩
  · have hA : A.Nodup := (List.nodup_append.1 h).1
    have h2 := (List.nodup_append.1 h).2.1
    have hB : B.Nodup := (List.nodup_append.1 h2).2.1
    have hAB : ∀ a ∈ A, ∀ b ∈ B, a ≠ b := fun a ha b hb => (List.nodup_append.1 h).2.2 a ha b (List.mem_append_right _ hb)
    refine ⟨?_, fun j hj => ?_⟩
    · rw [List.nodup_append]
      refine ⟨hA, ?_, fun a ha b hb => ?_⟩
      · show (k :: B).Nodup
        rw [List.nodup_cons]
        exact ⟨fun q => by have := hlt k (List.mem_append_right _ (List.mem_append_right _ q)); omega, hB⟩
      · rcases List.mem_cons.1 (show b ∈ k :: B from hb) with rfl | z
        · have := hlt a (List.mem_append_left _ ha)
          omega
        · exact hAB a ha b z
    · rcases List.mem_append.1 hj with z | z
      · exact Or.inl (List.mem_append_left _ z)
      · rcases List.mem_cons.1 (show j ∈ k :: B from z) with rfl | q
        · exact Or.inr hk
        · exact Or.inl (List.mem_append_right _ (List.mem_append_right _ q))
/-- One more list, that is empty. -/
theorem RowsS.more {w wA w1 : World} {v v1 : Value} {ss : List Sv} {rows : List (List Int)} {f : List Nat} (h : RowsS w v ss rows f) (hf : f.Nodup) (hb : Below w.heap.size w wA)
    (a1 : OwnE EV w1 0 v1 (ss ++ [(none, 0, 0)])) (a2 : wA.grownBy w1 v.ownBlock) (a3 : v1.ownBlock = v.ownBlock ∨ v1.ownBlock = some wA.heap.size) :
    RowsS w1 v1 (ss ++ [(none, 0, 0)]) (rows ++ [[]]) (v1.ownBlock.toList ++ blks ss) ∧ Step f (v1.ownBlock.toList ++ blks ss) w w1 := by
  have hbf := h.bf
  have hlt := h.lt
  have hc : Chg (· ∈ v.ownBlock.toList) w w1 := (Chg.of_below hb).trans (Chg.of_grown (F := (· ∈ v.ownBlock.toList)) a2 fun k e => by rw [e]; simp) fun j q => Or.inl q
  obtain ⟨n1, n2⟩ := nodup_swap (A := []) (x := v.ownBlock) (y := v1.ownBlock) (B := blks ss) (m := w.heap.size) (by rw [← List.nil_append f, hbf] at hf; exact hf) (by rw [hbf] at hlt; exact hlt)
    (a3.imp_right fun e => ⟨_, e, hb.size⟩)
  refine ⟨⟨a1, by simp [h.len], fun i s r hs hr => ?_, ?_⟩, ⟨n1, fun j hj => ?_, hc.mono fun j q => Or.inl (by rw [hbf]; exact List.mem_append_left _ q)⟩⟩
  · by_cases e : i < ss.length
    · rw [List.getElem?_append_left e] at hs
      rw [List.getElem?_append_left (by rw [← h.len]; exact e)] at hr
      refine own_kept (h.row i s r hs hr) hc fun j z q => ?_
      rw [hbf] at hf
      exact (List.nodup_append.1 hf).2.2 j q j (mem_blks hs z) rfl
    · have hi : i = ss.length := by
        have := (List.getElem?_eq_some_iff.1 hs).1
        simp at this; omega
      subst hi
      rw [List.getElem?_append_right (Nat.le_refl _), Nat.sub_self] at hs
      rw [h.len, List.getElem?_append_right (Nat.le_refl _), Nat.sub_self] at hr
      cases hs; cases hr
      exact OwnE.nil EZ w1 0
  · rw [blks_append]
    show _ = _ ++ (blks ss ++ blks [(none, 0, 0)])
    rw [show blks [((none, 0, 0) : Sv)] = [] from rfl, List.append_nil]
  · rw [hbf]; exact n2 j hj
/-- One more number in a list. -/
theorem RowsS.put {w wA w1 : World} {g n cap : Nat} {ss : List Sv} {rows : List (List Int)} {f : List Nat} (h : RowsS w (.slice (some ⟨g, 0, none⟩) n cap) ss rows f) (hf : f.Nodup) (hb : Below w.heap.size w wA)
    {i : Nat} {s s1 : Sv} {r r1 : List Int} (hs : ss[i]? = some s) (hr : rows[i]? = some r)
    (a1 : OwnE EZ w1 0 (svV s1) r1) (a2 : wA.grownBy w1 (svV s).ownBlock) (a3 : (svV s1).ownBlock = (svV s).ownBlock ∨ (svV s1).ownBlock = some wA.heap.size) :
    ∃ f', RowsS (w1.setCell ⟨g, i, none⟩ (svV s1)) (.slice (some ⟨g, 0, none⟩) n cap) (ss.set i s1) (rows.set i r1) f' ∧ Step f f' w (w1.setCell ⟨g, i, none⟩ (svV s1)) ∧
      w1.cell? ⟨g, i, none⟩ = some (svV s) ∧ w1.frozen? ⟨g, i, none⟩ = false := by
  have hbf := h.bf
  have hlt := h.lt
  have hi := (List.getElem?_eq_some_iff.1 hs).1
  have hin : i < n := by have := h.own.capBound.1; omega
  have hbl : (Value.slice (some ⟨g, 0, none⟩) n cap).ownBlock = some g := rfl
  have hgf : g ∈ f := by rw [hbf, hbl]; simp
  have hgs : g ∉ blks ss := fun q => by
    rw [hbf, hbl] at hf
    exact (List.nodup_append.1 hf).2.2 g (by simp) g q rfl
  have hsplit : ss = ss.take i ++ s :: ss.drop (i + 1) := by
    have e := (List.getElem?_eq_some_iff.1 hs).2
    rw [← e, List.getElem_cons_drop, List.take_append_drop]
  have hset : ss.set i s1 = ss.take i ++ s1 :: ss.drop (i + 1) := by rw [List.set_eq_take_append_cons_drop, if_pos hi]
  have hc1 : Chg (· ∈ blkS s) w w1 := (Chg.of_below hb).trans (Chg.of_grown (F := (· ∈ blkS s)) a2 fun k e => by unfold blkS; rw [e]; simp) fun j q => Or.inl q
  have hc2 : Chg (· ∈ f) w (w1.setCell ⟨g, i, none⟩ (svV s1)) := (hc1.mono (G := (· ∈ f)) fun j q => Or.inl (by rw [hbf]; exact List.mem_append_right _ (mem_blks hs q))).setCell (p := ⟨g, i, none⟩) (Or.inl hgf) _
  have hgw : ∀ j ∈ (Value.slice (some ⟨g, 0, none⟩) n cap).ownBlock.toList, ¬ j ∈ blkS s := fun j hj q => hgs (by
    rw [hbl] at hj
    have : j = g := by simpa using hj
    rw [← this]; exact mem_blks hs q)
  have ho1 : OwnE EV w1 0 (.slice (some ⟨g, 0, none⟩) n cap) ss := own_kept h.own hc1 hgw
  have ho2 : OwnE EV (w1.setCell ⟨g, i, none⟩ (svV s1)) 0 (.slice (some ⟨g, 0, none⟩) n cap) (ss.set i s1) := by
    have := ho1.setE hin s1
    simp only [EV, Nat.mul_one] at this
    exact this
  obtain ⟨cc, fc, _⟩ := ho1.cellE hs (c := 0) (v := svV s) rfl
  simp only [EV, Nat.mul_one, Nat.add_zero] at cc fc
  have hdis : ∀ (i' : Nat) (s' : Sv), i' ≠ i → ss[i']? = some s' → ∀ j ∈ blkS s', ¬ j ∈ blkS s := by
    intro i' s' hne hs' j hj hq
    have hnd : (blks ss).Nodup := by rw [hbf] at hf; exact (List.nodup_append.1 hf).2.1
    rcases Nat.lt_or_ge i' i with c | c
    · have : s' ∈ ss.take i := by
        refine List.mem_of_getElem? (i := i') ?_
        rw [List.getElem?_take_of_lt c]; exact hs'
      rw [hsplit, blks_append, blks_cons] at hnd
      exact (List.nodup_append.1 hnd).2.2 j (List.mem_flatMap.2 ⟨s', this, hj⟩) j (List.mem_append_left _ hq) rfl
    · have hd : s' ∈ ss.drop (i + 1) := by
        refine List.mem_of_getElem? (i := i' - (i + 1)) ?_
        rw [List.getElem?_drop, show i + 1 + (i' - (i + 1)) = i' by omega]; exact hs'
      rw [hsplit, blks_append, blks_cons] at hnd
      have h2 := (List.nodup_append.1 hnd).2.1
      exact (List.nodup_append.1 h2).2.2 j hq j (List.mem_flatMap.2 ⟨s', hd, hj⟩) rfl
  have hgb : ∀ (k : Nat) (u : List Int) (t : Sv), OwnE EZ w1 0 (svV t) u → g ∉ blkS t → OwnE EZ (w1.setCell ⟨g, k, none⟩ (svV s1)) 0 (svV t) u := fun k u t ht hn =>
    own_kept ht ((Chg.refl (· = g) w1).setCell (p := ⟨g, k, none⟩) (Or.inl rfl) _) fun j hj e => hn (by rw [← e]; exact hj)
  have hs1g : g ∉ blkS s1 := fun q => by
    rcases a3 with e | e
    · unfold blkS at q; rw [e] at q; exact hgs (mem_blks hs q)
    · unfold blkS at q; rw [e] at q
      have : g = wA.heap.size := by simpa using q
      have := hlt g hgf
      have := hb.size
      omega
  obtain ⟨n1, n2⟩ := nodup_swap (A := [g] ++ blks (ss.take i)) (x := (svV s).ownBlock) (y := (svV s1).ownBlock) (B := blks (ss.drop (i + 1))) (m := w.heap.size)
    (by rw [hbf, hsplit, blks_append, blks_cons, hbl] at hf; simpa [blkS] using hf) (fun j hj => hlt j (by rw [hbf, hsplit, blks_append, blks_cons, hbl]; simpa [blkS] using hj)) (a3.imp_right fun e => ⟨_, e, hb.size⟩)
  refine ⟨[g] ++ blks (ss.set i s1), ⟨ho2, by simp [h.len], fun i' s' r' hs' hr' => ?_, by rw [hbl]; rfl⟩, ⟨?_, fun j hj => ?_, hc2⟩, cc, fc⟩
  · by_cases e : i' = i
    · subst e
      rw [List.getElem?_set_self hi] at hs'
      rw [List.getElem?_set_self (by rw [← h.len]; exact hi)] at hr'
      cases hs'; cases hr'
      exact hgb _ _ _ a1 hs1g
    · rw [List.getElem?_set_ne (Ne.symm e)] at hs' hr'
      exact hgb _ _ _ (own_kept (h.row i' s' r' hs' hr') hc1 fun j hj => hdis i' s' e hs' j hj) fun q => hgs (mem_blks hs' q)
  · rw [hset, blks_append, blks_cons]
    simpa [blkS] using n1
  · rw [hset, blks_append, blks_cons] at hj
    have := n2 j (by simpa [blkS] using hj)
    rw [hbf, hsplit, blks_append, blks_cons, hbl]
    simpa [blkS] using this
#print axioms RowsS.put
#print axioms RowsS.more
end Go.Proofs.YtlaeaeciomkababDoor
