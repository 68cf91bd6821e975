/-
  Heaps of package soft in memory.
-/
import Derived.Test.YtdpfijhkbhmkgaaDoorSoJ
namespace Go.Proofs.YtdpfijhkbhmkgaaDoor
open Go.RowKit Go.Sort Go.Proofs Go.Lib

/-- These pointers lead to these trees, whose blocks are f. -/
def TsAt (w : World) : List SN → List (Option Addr) → List Nat → Prop
  | [], ps, f => ps = [] ∧ f = []
  | t :: ts, ps, f => ∃ p ps' ft fr, ps = p :: ps' ∧ NdAt w t (.pointer p) ft ∧ TsAt w ts ps' fr ∧ f.Perm (ft ++ fr)
theorem TsAt.perm {w : World} {ts : List SN} {ps : List (Option Addr)} {f g : List Nat} (h : TsAt w ts ps f) (p : f.Perm g) : TsAt w ts ps g := by
  cases ts with
  | nil => obtain ⟨e, rfl⟩ := h; exact ⟨e, List.nil_perm.1 p⟩
  | cons t ts => obtain ⟨q, ps', ft, fr, e, h1, h2, h3⟩ := h; exact ⟨q, ps', ft, fr, e, h1, h2, p.symm.trans h3⟩
theorem TsAt.len {w : World} : ∀ {ts : List SN} {ps : List (Option Addr)} {f : List Nat}, TsAt w ts ps f → ps.length = ts.length
  | [], _, _, h => by rw [h.1]; rfl
  | t :: ts, _, _, h => by obtain ⟨q, ps', ft, fr, rfl, h1, h2, h3⟩ := h; simp [TsAt.len h2]
theorem TsAt.lt {w : World} : ∀ {ts : List SN} {ps : List (Option Addr)} {f : List Nat}, TsAt w ts ps f → ∀ j ∈ f, j < w.heap.size
  | [], _, _, h, j, hj => by rw [h.2] at hj; cases hj
  | t :: ts, _, _, h, j, hj => by
    obtain ⟨q, ps', ft, fr, rfl, h1, h2, h3⟩ := h
    rcases List.mem_append.1 (h3.subset hj) with z | z
    · exact h1.lt z
    · exact TsAt.lt h2 j z
theorem TsAt.kept {w w' : World} {F : Nat → Prop} (hc : Chg F w w') : ∀ {ts : List SN} {ps : List (Option Addr)} {f : List Nat}, (∀ j ∈ f, ¬ F j) → TsAt w ts ps f → TsAt w' ts ps f
  | [], _, _, _, h => h
  | t :: ts, _, _, hf, h => by
    obtain ⟨q, ps', ft, fr, rfl, h1, h2, h3⟩ := h
    exact ⟨q, ps', ft, fr, rfl, h1.kept hc fun j z => hf j (h3.symm.subset (List.mem_append_left _ z)), TsAt.kept hc (fun j z => hf j (h3.symm.subset (List.mem_append_right _ z))) h2, h3⟩
/-- One of the trees: what is left, and what becomes of all when it changes or goes. -/
theorem TsAt.at {w : World} : ∀ {ts : List SN} {ps : List (Option Addr)} {f : List Nat} {i : Nat} {t : SN}, TsAt w ts ps f → ts[i]? = some t →
    ∃ p ft fr, ps[i]? = some p ∧ NdAt w t (.pointer p) ft ∧ f.Perm (ft ++ fr) ∧
      (∀ (w' : World) (F : Nat → Prop), Chg F w w' → (∀ j ∈ fr, ¬ F j) → (∀ t' ft', NdAt w' t' (.pointer p) ft' → TsAt w' (ts.set i t') ps (ft' ++ fr)) ∧ TsAt w' (ts.eraseIdx i) (ps.eraseIdx i) fr)
  | [], _, _, i, t, _, e => by simp at e
  | t0 :: ts, _, _, 0, t, h, e => by
    obtain ⟨q, ps', ft, fr, rfl, h1, h2, h3⟩ := h
    obtain rfl : t0 = t := by simpa using e
    refine ⟨q, ft, fr, rfl, h1, h3, fun w' F hc hf => ⟨fun t' ft' h' => ⟨q, ps', ft', fr, rfl, h', TsAt.kept hc hf h2, List.Perm.refl _⟩, TsAt.kept hc hf h2⟩⟩
  | t0 :: ts, _, _, i + 1, t, h, e => by
    obtain ⟨q, ps', ft, fr, rfl, h1, h2, h3⟩ := h
    obtain ⟨p, ft2, fr2, e1, e2, e3, e4⟩ := TsAt.at h2 (i := i) (t := t) (by simpa using e)
    refine ⟨p, ft2, ft ++ fr2, by simpa using e1, e2, ?_, fun w' F hc hf => ?_⟩
    · rw [List.perm_iff_count]
      intro a
      have k1 := h3.count_eq a
      have k2 := e3.count_eq a
      simp only [List.count_append] at k1 k2 ⊢
      omega
    · obtain ⟨g1, g2⟩ := e4 w' F hc (fun j z => hf j (List.mem_append_right _ z))
      have hq : NdAt w' t0 (.pointer q) ft := h1.kept hc fun j z => hf j (List.mem_append_left _ z)
      refine ⟨fun t' ft' h' => ⟨q, ps', ft, ft' ++ fr2, rfl, hq, g1 t' ft' h', ?_⟩, ⟨q, ps'.eraseIdx i, ft, fr2, rfl, hq, g2, List.Perm.refl _⟩⟩
      rw [List.perm_iff_count]
      intro a
      simp only [List.count_append]
      omega
/-- The cells of a heap. -/
def HB (w : World) (hb r0 n : Nat) (tv : Value) : Prop := w.heap[hb]? = some (.cells #[.int .i64 (r0 : Int), .int .i64 (n : Int), tv] 60 (0, 0))
section
variable {w w' : World} {hb r0 n : Nat} {tv : Value}
theorem HB.lt (h : HB w hb r0 n tv) : hb < w.heap.size := (Array.getElem?_eq_some_iff.1 h).1
theorem HB.cells (h : HB w hb r0 n tv) : w.cell? ⟨hb, 0, none⟩ = some (.int .i64 (r0 : Int)) ∧ w.cell? ⟨hb, 1, none⟩ = some (.int .i64 (n : Int)) ∧ w.cell? ⟨hb, 2, none⟩ = some tv := by
  unfold HB at h
  simp [World.cell?, h]
theorem HB.fr (h : HB w hb r0 n tv) (j : Nat) : w.frozen? ⟨hb, j, none⟩ = false := by
  unfold HB at h
  simp [World.frozen?, h]
theorem HB.kept (h : HB w hb r0 n tv) (e : w'.heap[hb]? = w.heap[hb]?) : HB w' hb r0 n tv := by unfold HB at *; rw [e]; exact h
theorem HB.put1 (h : HB w hb r0 n tv) (n' : Nat) : HB (w.setCell ⟨hb, 1, none⟩ (.int .i64 (n' : Int))) hb r0 n' tv := by
  have := heap_put (i := 1) h (.int .i64 (n' : Int))
  simpa [HB] using this
theorem HB.put2 (h : HB w hb r0 n tv) (v : Value) : HB (w.setCell ⟨hb, 2, none⟩ v) hb r0 n v := by
  have := heap_put (i := 2) h v
  simpa [HB] using this
end
/-- A heap: its trees; its blocks. -/
def HAt (w : World) (hb r0 n : Nat) (ts : List SN) (f : List Nat) : Prop := ∃ tv ps fn, HB w hb r0 n tv ∧ OwnE EP w 0 tv ps ∧ TsAt w ts ps fn ∧ f.Perm (hb :: (tv.ownBlock.toList ++ fn))
theorem own_kept {w w' : World} {v : Value} {ps : List (Option Addr)} {F : Nat → Prop} (h : OwnE EP w 0 v ps) (hc : Chg F w w') (hf : ∀ j ∈ v.ownBlock.toList, ¬ F j) : OwnE EP w' 0 v ps := by
  cases hv : v.ownBlock with
  | none =>
    obtain ⟨e1, h0 | ⟨g, cap, cur, rfl, _⟩⟩ := h
    · exact ⟨e1, Or.inl h0⟩
    · simp [Value.ownBlock] at hv
  | some g =>
    have hg := (World.ownsRow.lt h g hv).2
    have hb := hc.block g hg (hf g (by simp [hv]))
    obtain ⟨e1, h0 | ⟨g', cap, cur, rfl, q1, q2, q3⟩⟩ := h
    · exact ⟨e1, Or.inl h0⟩
    · simp [Value.ownBlock] at hv
      subst hv
      exact ⟨e1, Or.inr ⟨g', cap, cur, rfl, q1, hb.trans q2, q3⟩⟩
theorem own_lt {w : World} {v : Value} {ps : List (Option Addr)} (h : OwnE EP w 0 v ps) : ∀ j ∈ v.ownBlock.toList, j < w.heap.size := fun j hj => (World.ownsRow.lt h j (by simpa using hj)).2
theorem HAt.lt {w : World} {hb r0 n : Nat} {ts : List SN} {f : List Nat} (h : HAt w hb r0 n ts f) : ∀ j ∈ f, j < w.heap.size := by
  obtain ⟨tv, ps, fn, h1, h2, h3, h4⟩ := h
  intro j hj
  rcases List.mem_cons.1 (h4.subset hj) with rfl | z
  · exact h1.lt
  · rcases List.mem_append.1 z with z | z
    · exact own_lt h2 j z
    · exact h3.lt j z
theorem HAt.kept {w w' : World} {hb r0 n : Nat} {ts : List SN} {f : List Nat} {F : Nat → Prop} (h : HAt w hb r0 n ts f) (hc : Chg F w w') (hf : ∀ j ∈ f, ¬ F j) : HAt w' hb r0 n ts f := by
  obtain ⟨tv, ps, fn, h1, h2, h3, h4⟩ := h
  have hf' : ∀ j ∈ hb :: (tv.ownBlock.toList ++ fn), ¬ F j := fun j z => hf j (h4.symm.subset z)
  exact ⟨tv, ps, fn, h1.kept (hc.block hb h1.lt (hf' hb List.mem_cons_self)), own_kept h2 hc fun j z => hf' j (List.mem_cons_of_mem _ (List.mem_append_left _ z)), TsAt.kept hc (fun j z => hf' j (List.mem_cons_of_mem _ (List.mem_append_right _ z))) h3, h4⟩
theorem HAt.below {w w' : World} {hb r0 n : Nat} {ts : List SN} {f : List Nat} (h : HAt w hb r0 n ts f) (hb' : Below w.heap.size w w') : HAt w' hb r0 n ts f := h.kept (F := fun _ => False) (Chg.of_below hb') (fun _ _ q => q)
theorem Step.inside {f o : List Nat} {w w' : World} (h : f.Nodup) (hc : Chg (· ∈ o) w w') (ho : ∀ j ∈ o, j ∈ f) : Step f f w w' := ⟨h, fun _ q => Or.inl q, hc.mono fun j z => Or.inl (ho j z)⟩
/-- A row of one's own took over another block, or kept its own. -/
theorem Step.row {f : List Nat} {b b' : Option Nat} {w w' : World} (h : (b.toList ++ f).Nodup) (hf : ∀ j ∈ f, j < w.heap.size) (hc : Chg (· ∈ b.toList) w w') (hb : b' = b ∨ b' = some w.heap.size) : Step (b.toList ++ f) (b'.toList ++ f) w w' := by
  rcases hb with rfl | rfl
  · exact Step.inside h hc fun j z => List.mem_append_left _ z
  · refine ⟨?_, fun j z => ?_, hc.mono fun j z => Or.inl (List.mem_append_left _ z)⟩
    · refine List.nodup_cons.2 ⟨fun q => ?_, (List.nodup_append.1 h).2.1⟩
      have := hf _ q
      omega
    · rcases List.mem_cons.1 z with rfl | z
      · exact Or.inr (Nat.le_refl _)
      · exact Or.inl (List.mem_append_right _ z)
end Go.Proofs.YtdpfijhkbhmkgaaDoor
