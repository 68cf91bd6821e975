/-
  Package soft: takeLeft at nodes.
-/
import Derived.Test.YtdpfijhkbhmkgaaDoorSoT
namespace Go.Proofs.YtdpfijhkbhmkgaaDoor
open Go.RowKit Go.Sort Go.Proofs

/-- Lists that share nothing. -/
def Dj (a b : List Nat) : Prop := ∀ j ∈ a, j ∉ b
theorem nd4 {nb : Nat} {fi fa fb : List Nat} : (nb :: (fi ++ (fa ++ fb))).Nodup ↔ (nb ∉ fi ∧ nb ∉ fa ∧ nb ∉ fb) ∧ fi.Nodup ∧ fa.Nodup ∧ fb.Nodup ∧ Dj fi fa ∧ Dj fi fb ∧ Dj fa fb := by
  simp only [List.nodup_cons, List.nodup_append, List.mem_append, not_or, Dj]
  constructor
  · rintro ⟨⟨h1, h2, h3⟩, h4, ⟨h5, h6, h7⟩, h8⟩
    exact ⟨⟨h1, h2, h3⟩, h4, h5, h6, fun j q1 q2 => h8 j q1 j (Or.inl q2) rfl, fun j q1 q2 => h8 j q1 j (Or.inr q2) rfl, fun j q1 q2 => h7 j q1 j q2 rfl⟩
  · rintro ⟨⟨h1, h2, h3⟩, h4, h5, h6, h7, h8, h9⟩
    refine ⟨⟨h1, h2, h3⟩, h4, ⟨h5, h6, fun a q1 b q2 e => h9 a q1 (e ▸ q2)⟩, fun a q1 b q2 e => ?_⟩
    subst e
    rcases q2 with q2 | q2
    · exact h7 a q1 q2
    · exact h8 a q1 q2
theorem mem4 {j nb : Nat} {fi fa fb : List Nat} : j ∈ nb :: (fi ++ (fa ++ fb)) ↔ j = nb ∨ j ∈ fi ∨ j ∈ fa ∨ j ∈ fb := by simp
/-- fill does what it should with a node. -/
def FillOK (t : SN) : Prop := ∀ (w : World) (v : Value) (f : List Nat), NdAt w t v f → f.Nodup → Calls Tryd.prog 30 #[v] w fun e w' => e = .returned (.tuple #[]) ∧ ∃ f', NdAt w' (fillS t) v f' ∧ Step f f' w w'
theorem takeLeft_any {w : World} {v : Value} {f : List Nat} {k ka : Int} {r m ra ma : Nat} {is ia : List (Int × Int)} {la lb o : SN} (h : NdAt w (.node k r m is (.node ka ra ma ia la lb) o) v f) (hf : f.Nodup) (hia : ia ≠ []) (hsz : is.length + ia.length ≤ 1000)
    (hfill : (la.none? && lb.none?) = false → FillOK (.node ka ra ma [] la lb)) :
    Calls Tryd.prog 41 #[v] w fun e w' => e = .returned (.tuple #[]) ∧ ∃ f', NdAt w' (.node ka r m (is ++ ia) (if la.none? && lb.none? then .nil else fillS (.node ka ra ma [] la lb)) o) v f' ∧ Step f f' w w' := by
  obtain ⟨nb, iv, va, vb, fi, fa, fb, rfl, hN, hI, hA, hB, hp⟩ := nd_node.1 h
  obtain ⟨jb, jv, vla, vlb, fj, fla, flb, rfl, hJ, hIJ, hLA, hLB, hpa⟩ := nd_node.1 hA
  obtain ⟨pla, rfl, npa⟩ := hLA.ptr
  obtain ⟨plb, rfl, npb⟩ := hLB.ptr
  obtain ⟨⟨n1, n2, n3⟩, n4, n5, n6, n7, n8, n9⟩ := nd4.1 (hp.nodup_iff.1 hf)
  obtain ⟨⟨m1, m2, m3⟩, m4, m5, m6, m7, m8, m9⟩ := nd4.1 (hpa.nodup_iff.1 n5)
  have hlen : 0 < ia.length := List.length_pos_iff.2 hia
  obtain ⟨gj, cj, rfl, _⟩ := OwnE.some hIJ.1 rfl hlen
  have hja : jb ∈ fa := hpa.symm.subset List.mem_cons_self
  have hmem : ∀ j, j ∈ nb :: jb :: fi → j ∈ f := by
    intro j q
    rcases List.mem_cons.1 q with rfl | q
    · exact hp.symm.subset List.mem_cons_self
    · rcases List.mem_cons.1 q with rfl | q
      · exact hp.symm.subset (mem4.2 (Or.inr (Or.inr (Or.inl hja))))
      · exact hp.symm.subset (mem4.2 (Or.inr (Or.inl q)))
  have hbout : ∀ j ∈ fb, ¬ j ∈ nb :: jb :: fi := by
    intro j q q2
    rcases List.mem_cons.1 q2 with rfl | q2
    · exact n3 q
    · rcases List.mem_cons.1 q2 with rfl | q2
      · exact n9 j hja q
      · exact n8 j q2 q
  refine takeLeft_up (Post := fun e w' => e = .returned (.tuple #[]) ∧ ∃ f', NdAt w' (.node ka r m (is ++ ia) (if la.none? && lb.none? then .nil else fillS (.node ka ra ma [] la lb)) o) (.pointer (some ⟨nb, 0, none⟩)) f' ∧ Step f f' w w') hN hJ hI hIJ.1 (show Hid (ia.length = ia.length) from rfl) (by omega) (fun e => n2 (e ▸ hja)) n1 (fun q => n7 jb q hja) (show Hid _ from hsz) ?_ ?_
  · intro e1 e2 w' iv' fi' hup hfi hchg ⟨hnd, hn', hj'⟩
    have q1 := npa.2 e1
    have q2 := npb.2 e2
    refine ⟨rfl, nb :: (fi' ++ ([] ++ fb)), ?_, ?_⟩
    · rw [q1, q2]
      exact nd_node.2 ⟨nb, iv', .pointer none, vb, fi', [], fb, rfl, hup.node, hup.items, nd_nil.2 ⟨rfl, rfl⟩, hB.kept hchg hbout, List.Perm.refl _⟩
    · refine ⟨nd4.2 ⟨⟨hn', by simp, n3⟩, hnd, List.nodup_nil, n6, fun _ _ q => (by cases q), fun j z1 z2 => ?_, fun _ q => (by cases q)⟩, fun j q => ?_, hchg.mono fun j q => Or.inl (hmem j q)⟩
      · rcases hfi j z1 with z | z
        · exact n8 j z z2
        · have := hB.lt z2; omega
      · rcases mem4.1 q with rfl | q | q | q
        · exact Or.inl (hmem j List.mem_cons_self)
        · rcases hfi j q with z | z
          · exact Or.inl (hmem j (List.mem_cons_of_mem _ (List.mem_cons_of_mem _ z)))
          · exact Or.inr (by omega)
        · cases q
        · exact Or.inl (hp.symm.subset (mem4.2 (Or.inr (Or.inr (Or.inr q)))))
  · intro hs w' iv' fi' hup hfi hchg ⟨hnd, hn', hj'⟩
    have hq : (la.none? && lb.none?) = false := by
      cases e1 : la.none? <;> cases e2 : lb.none? <;> simp
      rw [npa.1 e1, npb.1 e2] at hs
      simp at hs
    have hpart : NdAt w' (.node ka ra ma [] la lb) (.pointer (some ⟨jb, 0, none⟩)) (jb :: ([] ++ (fla ++ flb))) := by
      have hout : ∀ j, j ∈ fla ∨ j ∈ flb → ¬ j ∈ nb :: jb :: fi := by
        intro j q q2
        have hjf : j ∈ fa := hpa.symm.subset (mem4.2 (Or.inr (Or.inr q)))
        rcases List.mem_cons.1 q2 with rfl | q2
        · exact n2 hjf
        · rcases List.mem_cons.1 q2 with rfl | q2
          · rcases q with q | q
            · exact m2 q
            · exact m3 q
          · exact n7 j q2 hjf
      exact nd_node.2 ⟨jb, _, _, _, [], fla, flb, rfl, hup.part, ItsAt.nil w', hLA.kept hchg (fun j q => hout j (Or.inl q)), hLB.kept hchg (fun j q => hout j (Or.inr q)), List.Perm.refl _⟩
    have hpnd : (jb :: ([] ++ (fla ++ flb))).Nodup := nd4.2 ⟨⟨by simp, m2, m3⟩, List.nodup_nil, m5, m6, fun _ q => (by cases q), fun _ q => (by cases q), m9⟩
    have hsub : ∀ j ∈ jb :: ([] ++ (fla ++ flb)), j ∈ fa := by
      intro j q
      refine hpa.symm.subset ?_
      rcases mem4.1 q with q | q | q | q
      · exact mem4.2 (Or.inl q)
      · cases q
      · exact mem4.2 (Or.inr (Or.inr (Or.inl q)))
      · exact mem4.2 (Or.inr (Or.inr (Or.inr q)))
    refine (hfill hq w' _ _ hpart hpnd).mono ?_
    rintro e w2 ⟨rfl, g, hg, hst⟩
    rw [hq]
    refine ⟨rfl, rfl, nb :: (fi' ++ (g ++ fb)), ?_, ?_⟩
    · rw [if_neg (by simp)]
      refine nd_node.2 ⟨nb, iv', _, vb, fi', g, fb, rfl, ?_, hup.items.kept hst.chg ?_, hg, (hB.kept hchg hbout).kept hst.chg ?_, List.Perm.refl _⟩
      · exact hup.node.kept (hst.chg.block nb hup.node.lt (fun q => n2 (hsub nb q)))
      · intro j q z
        rcases hfi j q with q | q
        · exact n7 j q (hsub j z)
        · have := hA.lt (hsub j z); omega
      · exact fun j q z => n9 j (hsub j z) q
    · have hgsub : ∀ j ∈ g, j ∈ fa ∨ w.heap.size ≤ j ∧ w'.heap.size ≤ j := by
        intro j q
        rcases hst.sub j q with z | z
        · exact Or.inl (hsub j z)
        · exact Or.inr ⟨Nat.le_trans hchg.size z, z⟩
      refine ⟨nd4.2 ⟨⟨hn', fun q => ?_, n3⟩, hnd, hst.nodup, n6, fun j z1 z2 => ?_, fun j z1 z2 => ?_, fun j z1 z2 => ?_⟩, fun j q => ?_, hchg.mono (fun j q => Or.inl (hmem j q)) |>.trans hst.chg fun j q => Or.inl (hp.symm.subset (mem4.2 (Or.inr (Or.inr (Or.inl (hsub j q))))))⟩
      · rcases hgsub nb q with z | z
        · exact n2 z
        · have := hN.lt; omega
      · rcases hgsub j z2 with z | z
        · rcases hfi j z1 with y | y
          · exact n7 j y z
          · have := hA.lt z; omega
        · have := hup.items.lt j z1; omega
      · rcases hfi j z1 with z | z
        · exact n8 j z z2
        · have := hB.lt z2; omega
      · rcases hgsub j z1 with z | z
        · exact n9 j z z2
        · have := hB.lt z2; omega
      · rcases mem4.1 q with rfl | q | q | q
        · exact Or.inl (hmem j List.mem_cons_self)
        · rcases hfi j q with z | z
          · exact Or.inl (hmem j (List.mem_cons_of_mem _ (List.mem_cons_of_mem _ z)))
          · exact Or.inr (by omega)
        · rcases hgsub j q with z | z
          · exact Or.inl (hp.symm.subset (mem4.2 (Or.inr (Or.inr (Or.inl z)))))
          · exact Or.inr z.1
        · exact Or.inl (hp.symm.subset (mem4.2 (Or.inr (Or.inr (Or.inr q)))))
#print axioms takeLeft_any
end Go.Proofs.YtdpfijhkbhmkgaaDoor
