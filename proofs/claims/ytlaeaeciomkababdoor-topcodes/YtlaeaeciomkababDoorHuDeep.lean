/-
  Plain facts: how deep a symbol can come to lie where weights are small: a group of some height weighs as much as Fibonacci's numbers tell.
-/
import Derived.Test.YtlaeaeciomkababDoorHuPl
namespace Go.Proofs.YtlaeaeciomkababDoor
open Go.RowKit Go.Proofs

def fibG : Nat → Nat
  | 0 => 1
  | 1 => 2
  | n + 2 => fibG (n + 1) + fibG n
theorem fibG_two (n : Nat) : fibG (n + 2) = fibG (n + 1) + fibG n := rfl
theorem fibG_pos : ∀ n, 1 ≤ fibG n
  | 0 => Nat.le_refl _
  | 1 => by decide
  | n + 2 => by rw [fibG_two]; have := fibG_pos (n + 1); omega
theorem fibG_succ : ∀ n, fibG n ≤ fibG (n + 1)
  | 0 => by decide
  | n + 1 => by rw [fibG_two]; omega
theorem fibG_mono {a : Nat} : ∀ {b : Nat}, a ≤ b → fibG a ≤ fibG b
  | 0, h => by rw [Nat.le_zero.1 h]; exact Nat.le_refl _
  | b + 1, h => by
    rcases Nat.lt_or_ge a (b + 1) with z | z
    · exact Nat.le_trans (fibG_mono (by omega)) (fibG_succ b)
    · rw [show a = b + 1 by omega]; exact Nat.le_refl _
theorem fibG_small {h : Nat} (q : fibG h ≤ 60) : h ≤ 8 := by
  rcases Nat.lt_or_ge 8 h with z | z
  · have h1 : fibG 9 ≤ fibG h := fibG_mono (by omega)
    have h2 : fibG 9 = 89 := by decide
    omega
  · exact z
/-- Groups of heights: none weighs less than M, and M is more than what lies below any. -/
def DeepG (h : Nat → Nat) (M : Nat) (G : List Gr) : Prop := ∀ g ∈ G, fibG (h g.2) ≤ g.1 ∧ M ≤ g.1 ∧ (h g.2 = 0 ∨ fibG (h g.2 - 1) ≤ M)
theorem fib_join {hx hy wx wy M : Nat} (h1 : fibG hx ≤ wx) (h2 : fibG hy ≤ wy) (h3 : M ≤ wy) (h4 : hx = 0 ∨ fibG (hx - 1) ≤ M) : fibG (hx + 1) ≤ wx + wy := by
  rcases Nat.eq_zero_or_pos hx with z | z
  · subst z
    have e0 : fibG 0 = 1 := rfl
    have e1 : fibG (0 + 1) = 2 := rfl
    have := fibG_pos hy
    omega
  · obtain ⟨k, rfl⟩ : ∃ k, hx = k + 1 := ⟨hx - 1, by omega⟩
    rw [Nat.add_sub_cancel] at h4
    have e := fibG_two k
    rcases h4 with q | q
    · omega
    · show fibG (k + 2) ≤ _
      omega
theorem huffD_deep : ∀ (f c : Nat) (G : List Gr) (h : Nat → Nat) (M : Nat), G ≠ [] → G.length ≤ f + 1 → (G.map Prod.snd).Nodup → (∀ g ∈ G, g.2 < c) → DeepG h M G →
    ∃ H, fibG H ≤ (G.map Prod.fst).sum ∧ ∀ g ∈ G, huffD f c G g.2 + h g.2 ≤ H
  | f, c, [g], h, M, _, _, _, _, hd => ⟨h g.2, by have := (hd g List.mem_cons_self).1; simpa using this, fun x hx => by
      rw [List.mem_singleton.1 hx, huffD_one (by simp), Nat.zero_add]; exact Nat.le_refl _⟩
  | 0, c, a :: b :: r, _, _, _, hl, _, _, _ => by simp at hl
  | f + 1, c, a0 :: b0 :: r0, h, M, _, hl, hn, hc, hd => by
    obtain ⟨G, hG⟩ : ∃ G, a0 :: b0 :: r0 = G := ⟨_, rfl⟩
    have hlen : 2 ≤ G.length := by rw [← hG]; simp
    rw [hG] at hl hn hc hd ⊢
    have hne : G ≠ [] := fun e => by rw [e] at hlen; simp at hlen
    have ha := minG_first G hne
    obtain ⟨a, ea⟩ : ∃ a, minG G = a := ⟨_, rfl⟩
    rw [ea] at ha
    have p1 := List.perm_cons_erase ha.1
    obtain ⟨G1, eG1⟩ : ∃ G1, G.erase a = G1 := ⟨_, rfl⟩
    rw [eG1] at p1
    have hl1 := p1.length_eq
    rw [List.length_cons] at hl1
    have hne1 : G1 ≠ [] := fun e => by rw [e] at hl1; simp at hl1; omega
    have hb := minG_first G1 hne1
    obtain ⟨b, eb⟩ : ∃ b, minG G1 = b := ⟨_, rfl⟩
    rw [eb] at hb
    have p2 := List.perm_cons_erase hb.1
    obtain ⟨R, eR⟩ : ∃ R, G1.erase b = R := ⟨_, rfl⟩
    rw [eR] at p2
    have hl2 := p2.length_eq
    rw [List.length_cons] at hl2
    have pp : G.Perm (a :: b :: R) := p1.trans (p2.cons _)
    have hn' : ((a :: b :: R).map Prod.snd).Nodup := (pp.map _).nodup_iff.1 hn
    simp only [List.map_cons, List.nodup_cons, List.mem_cons, not_or] at hn'
    obtain ⟨⟨nab, naR⟩, nbR, nR⟩ := hn'
    have mb : b ∈ G := pp.symm.subset (List.mem_cons_of_mem _ List.mem_cons_self)
    have mR : ∀ g ∈ R, g ∈ G := fun g hg => pp.symm.subset (List.mem_cons_of_mem _ (List.mem_cons_of_mem _ hg))
    have hcR : ∀ g ∈ R, g.2 < c := fun g hg => hc g (mR g hg)
    have hab : a.1 ≤ b.1 := by
      have := ha.2 b mb
      unfold leG at this; omega
    have hbR : ∀ g ∈ R, b.1 ≤ g.1 := fun g hg => by
      have := hb.2 g (p2.symm.subset (List.mem_cons_of_mem _ hg))
      unfold leG at this; omega
    obtain ⟨a1, a2, a3⟩ := hd a ha.1
    obtain ⟨b1, b2, b3⟩ := hd b mb
    obtain ⟨h', hh'⟩ : ∃ h' : Nat → Nat, (fun t => if t = c then max (h a.2) (h b.2) + 1 else h t) = h' := ⟨_, rfl⟩
    have hc' : h' c = max (h a.2) (h b.2) + 1 := by rw [← hh']; exact if_pos rfl
    have hR' : ∀ g ∈ R, h' g.2 = h g.2 := fun g hg => by rw [← hh']; exact if_neg (by have := hcR g hg; omega)
    obtain ⟨H, e1, e2⟩ := huffD_deep f (c + 1) ((a.1 + b.1, c) :: R) h' b.1 (List.cons_ne_nil _ _) (by rw [List.length_cons]; omega)
      (by
        simp only [List.map_cons, List.nodup_cons]
        exact ⟨fun q => by
          obtain ⟨g, hg, e⟩ := List.mem_map.1 q
          have := hcR g hg; omega, nR⟩)
      (fun g hg => by
        rcases List.mem_cons.1 hg with rfl | z
        · exact Nat.lt_succ_self _
        · have := hcR g z; omega)
      (fun g hg => by
        rcases List.mem_cons.1 hg with rfl | z
        · show fibG (h' c) ≤ a.1 + b.1 ∧ b.1 ≤ a.1 + b.1 ∧ (h' c = 0 ∨ fibG (h' c - 1) ≤ b.1)
          rw [hc', Nat.add_sub_cancel]
          rcases Nat.le_total (h a.2) (h b.2) with z | z
          · rw [Nat.max_eq_right z]
            exact ⟨by have := fib_join b1 a1 a2 b3; omega, by omega, Or.inr b1⟩
          · rw [Nat.max_eq_left z]
            exact ⟨fib_join a1 b1 b2 a3, by omega, Or.inr (Nat.le_trans a1 hab)⟩
        · obtain ⟨c1, c2, c3⟩ := hd g (mR g z)
          rw [hR' g z]
          exact ⟨c1, hbR g z, c3.imp id fun q => Nat.le_trans q b2⟩)
    have hstep : ∀ x, huffD (f + 1) c G x = if x = a.2 ∨ x = b.2 then huffD f (c + 1) ((a.1 + b.1, c) :: R) c + 1 else huffD f (c + 1) ((a.1 + b.1, c) :: R) x := fun x => huffD_two ha p1 hb p2 x
    have hs : (G.map Prod.fst).sum = (((a.1 + b.1, c) :: R).map Prod.fst).sum := by
      rw [(pp.map Prod.fst).sum_nat]
      simp only [List.map_cons, List.sum_cons]
      omega
    have e3 := e2 (a.1 + b.1, c) List.mem_cons_self
    simp only [hc'] at e3
    have m1 := Nat.le_max_left (h a.2) (h b.2)
    have m2 := Nat.le_max_right (h a.2) (h b.2)
    refine ⟨H, by rw [hs]; exact e1, fun g hg => ?_⟩
    rw [hstep]
    rcases List.mem_cons.1 (pp.subset hg) with rfl | z
    · rw [if_pos (Or.inl rfl)]; omega
    · rcases List.mem_cons.1 z with rfl | z
      · rw [if_pos (Or.inr rfl)]; omega
      · rw [if_neg]
        · have := e2 g (List.mem_cons_of_mem _ z)
          rw [hR' g z] at this
          exact this
        · rintro (q | q)
          · exact naR (by rw [← q]; exact List.mem_map_of_mem z)
          · exact nbR (by rw [← q]; exact List.mem_map_of_mem z)
/-- Of weights that are some and few in all, no symbol lies deeper than 8. -/
theorem lenU_deep {ws : List Nat} (h1 : ∀ a ∈ ws, 1 ≤ a) (hs : ws.sum ≤ 60) (s : Nat) (hl : s < ws.length) : lenU ws s ≤ 8 := by
  have hl0 := gr0_len ws
  obtain ⟨H, e1, e2⟩ := huffD_deep (ws.length - 1) ws.length (gr0 ws) (fun _ => 0) 0 (fun e => by rw [e] at hl0; simp at hl0; omega) (by omega) (by rw [gr0_snd]; exact List.nodup_range) (fun g hg => by
      have : g.2 ∈ (gr0 ws).map Prod.snd := List.mem_map_of_mem hg
      rw [gr0_snd] at this
      exact List.mem_range.1 this)
    (fun g hg => by
      refine ⟨?_, Nat.zero_le _, Or.inl rfl⟩
      show 1 ≤ g.1
      unfold gr0 at hg
      have := List.mem_zipIdx' hg
      exact h1 _ (by rw [this.2]; exact List.getElem_mem _))
  have hf : (gr0 ws).map Prod.fst = ws := by unfold gr0; rw [List.zipIdx_map_fst]
  rw [hf] at e1
  have h8 := fibG_small (Nat.le_trans e1 hs)
  have := e2 _ (gr0_mem hl)
  show huffD (ws.length - 1) ws.length (gr0 ws) s ≤ 8
  simp only at this
  omega
#print axioms lenU_deep
end Go.Proofs.YtlaeaeciomkababDoor
