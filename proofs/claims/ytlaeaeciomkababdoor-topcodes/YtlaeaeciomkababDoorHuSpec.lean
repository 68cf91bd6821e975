/-
  Plain facts: groups put together, the two lightest first; how long each symbol comes to be. A group is a weight and a number: of those that weigh the same the lesser number counts as lighter.
-/
import Derived.Test.YtlaeaeciomkababDoorHuMath
namespace Go.Proofs.YtlaeaeciomkababDoor
open Go.RowKit Go.Proofs

abbrev Gr := Nat × Nat
def leG (a b : Gr) : Prop := a.1 < b.1 ∨ (a.1 = b.1 ∧ a.2 ≤ b.2)
theorem leG_refl (a : Gr) : leG a a := Or.inr ⟨rfl, Nat.le_refl _⟩
theorem leG_trans {a b c : Gr} (h1 : leG a b) (h2 : leG b c) : leG a c := by unfold leG at *; omega
theorem leG_anti {a b : Gr} (h1 : leG a b) (h2 : leG b a) : a = b := by
  unfold leG at *
  exact Prod.ext (by omega) (by omega)
/-- x is the lightest. -/
def FirstG (S : List Gr) (x : Gr) : Prop := x ∈ S ∧ ∀ y ∈ S, leG x y
theorem FirstG.unique {S : List Gr} {x y : Gr} (h1 : FirstG S x) (h2 : FirstG S y) : x = y := leG_anti (h1.2 y h2.1) (h2.2 x h1.1)
theorem FirstG.perm {S T : List Gr} {x : Gr} (h : FirstG S x) (p : S.Perm T) : FirstG T x := ⟨p.subset h.1, fun y hy => h.2 y (p.symm.subset hy)⟩
def minG : List Gr → Gr
  | [] => (0, 0)
  | [a] => a
  | a :: b :: r => if (minG (b :: r)).1 < a.1 ∨ ((minG (b :: r)).1 = a.1 ∧ (minG (b :: r)).2 < a.2) then minG (b :: r) else a
theorem minG_first : ∀ (S : List Gr), S ≠ [] → FirstG S (minG S)
  | [], h => absurd rfl h
  | [a], _ => ⟨List.mem_singleton.2 rfl, fun y hy => by rw [List.mem_singleton.1 hy]; exact leG_refl a⟩
  | a :: b :: r, _ => by
    obtain ⟨h1, h2⟩ := minG_first (b :: r) (List.cons_ne_nil _ _)
    simp only [minG]
    by_cases h : (minG (b :: r)).1 < a.1 ∨ ((minG (b :: r)).1 = a.1 ∧ (minG (b :: r)).2 < a.2)
    · rw [if_pos h]
      refine ⟨List.mem_cons_of_mem _ h1, fun y hy => ?_⟩
      rcases List.mem_cons.1 hy with rfl | z
      · unfold leG; omega
      · exact h2 y z
    · rw [if_neg h]
      refine ⟨List.mem_cons_self, fun y hy => ?_⟩
      rcases List.mem_cons.1 hy with rfl | z
      · exact leG_refl _
      · exact leG_trans (show leG a (minG (b :: r)) by unfold leG; omega) (h2 y z)
theorem minG_of {S : List Gr} {x : Gr} (h : FirstG S x) : minG S = x := (minG_first S (fun e => by rw [e] at h; cases h.1)).unique h
theorem minG_perm {S T : List Gr} (p : S.Perm T) : minG S = minG T := by
  by_cases h : S = []
  · subst h
    rw [List.nil_perm.1 p]
  · exact (minG_of ((minG_first S h).perm p)).symm
/-- How much longer the symbols of a group come to be, in at most so many steps; the next group's number is c. -/
def huffD : Nat → Nat → List Gr → Nat → Nat
  | 0, _, _, _ => 0
  | f + 1, c, G, x =>
    if G.length ≤ 1 then 0 else
    if x = (minG G).2 ∨ x = (minG (G.erase (minG G))).2 then huffD f (c + 1) (((minG G).1 + (minG (G.erase (minG G))).1, c) :: (G.erase (minG G)).erase (minG (G.erase (minG G)))) c + 1
    else huffD f (c + 1) (((minG G).1 + (minG (G.erase (minG G))).1, c) :: (G.erase (minG G)).erase (minG (G.erase (minG G)))) x
theorem huffD_perm : ∀ (f c : Nat) (G H : List Gr), G.Perm H → huffD f c G = huffD f c H
  | 0, _, _, _, _ => rfl
  | f + 1, c, G, H, p => by
    funext x
    have e1 : minG G = minG H := minG_perm p
    have p1 : (G.erase (minG G)).Perm (H.erase (minG H)) := by rw [e1]; exact p.erase _
    have e2 := minG_perm p1
    have p2 : ((G.erase (minG G)).erase (minG (G.erase (minG G)))).Perm ((H.erase (minG H)).erase (minG (H.erase (minG H)))) := by rw [e2]; exact p1.erase _
    have p3 := huffD_perm f (c + 1) _ _ (p2.cons ((minG G).1 + (minG (G.erase (minG G))).1, c))
    simp only [huffD]
    rw [p3, p.length_eq, e2, e1]
theorem huffD_one {f c : Nat} {G : List Gr} (h : G.length ≤ 1) (x : Nat) : huffD f c G x = 0 := by
  cases f with
  | zero => rfl
  | succ f => simp only [huffD]; rw [if_pos h]
theorem huffD_two {f c : Nat} {G G1 R : List Gr} {a b : Gr} (ha : FirstG G a) (p1 : G.Perm (a :: G1)) (hb : FirstG G1 b) (p2 : G1.Perm (b :: R)) (x : Nat) :
    huffD (f + 1) c G x = if x = a.2 ∨ x = b.2 then huffD f (c + 1) ((a.1 + b.1, c) :: R) c + 1 else huffD f (c + 1) ((a.1 + b.1, c) :: R) x := by
  have e1 : minG G = a := minG_of ha
  have q1 : (G.erase a).Perm G1 := by
    have := p1.erase a
    simpa using this
  have e2 : minG (G.erase a) = b := (minG_perm q1).trans (minG_of hb)
  have q2 : ((G.erase a).erase b).Perm R := by
    have := (q1.trans p2).erase b
    simpa using this
  have hl : ¬ G.length ≤ 1 := by
    have := p1.length_eq
    have := p2.length_eq
    simp only [List.length_cons] at *
    omega
  simp only [huffD]
  rw [if_neg hl, e1, e2, huffD_perm f (c + 1) _ _ (q2.cons (a.1 + b.1, c))]
/-- Groups with how much longer their symbols come to be. -/
def withD (D : Nat → Nat) (G : List Gr) : List (Nat × Nat) := G.map fun g => (g.1, D g.2)
/-- HUFFMAN, whole: the lengths are the best ones, fill all there is, and none is greater than the number of groups, less 1. -/
theorem huffD_fact : ∀ (f c : Nat) (G : List Gr), G ≠ [] → G.length ≤ f + 1 → (G.map Prod.snd).Nodup → (∀ g ∈ G, g.2 < c) →
    Best (withD (huffD f c G) G) ∧ (∀ g ∈ G, huffD f c G g.2 + 1 ≤ G.length) ∧ ∀ M, G.length ≤ M + 1 → roomW M (withD (huffD f c G) G) = 2 ^ M
  | f, c, [g], _, _, _, _ => by
    have e : withD (huffD f c [g]) [g] = [(g.1, 0)] := by simp [withD, huffD_one]
    rw [e]
    refine ⟨best_one _, fun x _ => by rw [huffD_one (by simp)]; simp, fun M _ => by simp [roomW]⟩
  | 0, c, a :: b :: r, _, hl, _, _ => by simp at hl
  | f + 1, c, a0 :: b0 :: r0, _, hl, hn, hc => by
    obtain ⟨G, hG⟩ : ∃ G, a0 :: b0 :: r0 = G := ⟨_, rfl⟩
    have hlen : 2 ≤ G.length := by rw [← hG]; simp
    rw [hG] at hl hn hc ⊢
    have hne : G ≠ [] := fun e => by rw [e] at hlen; simp at hlen
    have ha := minG_first G hne
    obtain ⟨a, ea⟩ : ∃ a, minG G = a := ⟨_, rfl⟩
    rw [ea] at ha
    have p1 := List.perm_cons_erase ha.1
    obtain ⟨G1, eG1⟩ : ∃ G1, G.erase a = G1 := ⟨_, rfl⟩
    rw [eG1] at p1
    have hl1 := p1.length_eq
    rw [List.length_cons] at hl1
    have hne1 : G1 ≠ [] := fun e => by rw [e] at hl1; simp at hl1; omega
    have hb := minG_first G1 hne1
    obtain ⟨b, eb⟩ : ∃ b, minG G1 = b := ⟨_, rfl⟩
    rw [eb] at hb
    have p2 := List.perm_cons_erase hb.1
    obtain ⟨R, eR⟩ : ∃ R, G1.erase b = R := ⟨_, rfl⟩
    rw [eR] at p2
    have hl2 := p2.length_eq
    rw [List.length_cons] at hl2
    have pp : G.Perm (a :: b :: R) := p1.trans (p2.cons _)
    have hn' : ((a :: b :: R).map Prod.snd).Nodup := (pp.map _).nodup_iff.1 hn
    simp only [List.map_cons, List.nodup_cons, List.mem_cons, not_or] at hn'
    obtain ⟨⟨nab, naR⟩, nbR, nR⟩ := hn'
    have hcR : ∀ g ∈ R, g.2 < c := fun g hg => hc g (pp.symm.subset (List.mem_cons_of_mem _ (List.mem_cons_of_mem _ hg)))
    have hca : a.2 < c := hc a ha.1
    have hcb : b.2 < c := hc b (pp.symm.subset (List.mem_cons_of_mem _ List.mem_cons_self))
    obtain ⟨i1, i2, i3⟩ := huffD_fact f (c + 1) ((a.1 + b.1, c) :: R) (List.cons_ne_nil _ _) (by rw [List.length_cons]; omega)
      (by
        simp only [List.map_cons, List.nodup_cons]
        exact ⟨fun q => by
          obtain ⟨g, hg, e⟩ := List.mem_map.1 q
          have := hcR g hg; omega, nR⟩)
      (fun g hg => by
        rcases List.mem_cons.1 hg with rfl | z
        · exact Nat.lt_succ_self _
        · have := hcR g z; omega)
    obtain ⟨D, hD⟩ : ∃ D, huffD f (c + 1) ((a.1 + b.1, c) :: R) = D := ⟨_, rfl⟩
    have hstep : ∀ x, huffD (f + 1) c G x = if x = a.2 ∨ x = b.2 then D c + 1 else D x := fun x => by
      rw [huffD_two ha p1 hb p2, hD]
    rw [hD] at i1 i2 i3
    have hw : (withD (huffD (f + 1) c G) G).Perm ((a.1, D c + 1) :: (b.1, D c + 1) :: withD D R) := by
      refine (pp.map _).trans ?_
      simp only [List.map_cons]
      rw [hstep, hstep, if_pos (Or.inl rfl), if_pos (Or.inr rfl)]
      refine List.Perm.of_eq ?_
      congr 2
      apply List.map_congr_left
      intro g hg
      rw [hstep, if_neg]
      rintro (q | q)
      · exact naR (by rw [← q]; exact List.mem_map_of_mem hg)
      · exact nbR (by rw [← q]; exact List.mem_map_of_mem hg)
    have hab : a.1 ≤ b.1 := by
      have := ha.2 b (pp.symm.subset (List.mem_cons_of_mem _ List.mem_cons_self))
      unfold leG at this; omega
    have hbR : ∀ x ∈ withD D R, b.1 ≤ x.1 := fun x hx => by
      obtain ⟨g, hg, rfl⟩ := List.mem_map.1 hx
      have := hb.2 g (p2.symm.subset (List.mem_cons_of_mem _ hg))
      unfold leG at this
      show b.1 ≤ g.1
      omega
    have hdc := i2 (a.1 + b.1, c) List.mem_cons_self
    simp only [List.length_cons] at hdc
    refine ⟨(Best.step (d := D c) i1 hab hbR).perm hw.symm, fun g hg => ?_, fun M hM => ?_⟩
    · rw [hstep]
      rcases List.mem_cons.1 (pp.subset hg) with rfl | z
      · rw [if_pos (Or.inl rfl)]; omega
      · rcases List.mem_cons.1 z with rfl | z
        · rw [if_pos (Or.inr rfl)]; omega
        · rw [if_neg]
          · have := i2 g (List.mem_cons_of_mem _ z)
            simp only [List.length_cons] at this
            omega
          · rintro (q | q)
            · exact naR (by rw [← q]; exact List.mem_map_of_mem z)
            · exact nbR (by rw [← q]; exact List.mem_map_of_mem z)
    · rw [roomW_perm hw, room_step (by omega)]
      exact i3 M (by rw [List.length_cons]; omega)
#print axioms huffD_fact
end Go.Proofs.YtlaeaeciomkababDoor
