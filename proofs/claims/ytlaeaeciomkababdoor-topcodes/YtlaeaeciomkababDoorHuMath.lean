/-
  Plain facts of lengths for weights: what they cost, what room they take; two that are lightest may be put together (Huffman).
-/
import Derived.WalkKit
namespace Go.Proofs.YtlaeaeciomkababDoor
open Go.RowKit Go.Proofs

/-- What lengths cost: pairs of a weight and a length. -/
def costW (L : List (Nat × Nat)) : Nat := (L.map fun x => x.1 * x.2).sum
/-- What room they take, in parts of two to M. -/
def roomW (M : Nat) (L : List (Nat × Nat)) : Nat := (L.map fun x => 2 ^ (M - x.2)).sum
/-- None is longer. -/
def within (M : Nat) (L : List (Nat × Nat)) : Prop := ∀ x ∈ L, x.2 ≤ M
theorem costW_cons (x : Nat × Nat) (L : List (Nat × Nat)) : costW (x :: L) = x.1 * x.2 + costW L := by simp [costW]
theorem roomW_cons (M : Nat) (x : Nat × Nat) (L : List (Nat × Nat)) : roomW M (x :: L) = 2 ^ (M - x.2) + roomW M L := by simp [roomW]
theorem costW_append (A B : List (Nat × Nat)) : costW (A ++ B) = costW A + costW B := by simp [costW]
theorem roomW_append (M : Nat) (A B : List (Nat × Nat)) : roomW M (A ++ B) = roomW M A + roomW M B := by simp [roomW]
theorem costW_perm {A B : List (Nat × Nat)} (p : A.Perm B) : costW A = costW B := (p.map _).sum_nat
theorem roomW_perm {M : Nat} {A B : List (Nat × Nat)} (p : A.Perm B) : roomW M A = roomW M B := (p.map _).sum_nat
/-- The greatest length goes to a weight that is no greater than any other one: that costs no more. -/
theorem give_most (a : Nat) : ∀ (la : Nat) (R : List (Nat × Nat)), (∀ x ∈ R, a ≤ x.1) →
    ∃ la' R', R'.map Prod.fst = R.map Prod.fst ∧ (∀ M, roomW M ((a, la') :: R') = roomW M ((a, la) :: R)) ∧ (∀ M, within M ((a, la) :: R) → within M ((a, la') :: R')) ∧ (∀ x ∈ R', x.2 ≤ la') ∧ costW ((a, la') :: R') ≤ costW ((a, la) :: R)
  | la, [], _ => ⟨la, [], rfl, fun _ => rfl, fun _ h => h, (fun x h => (by cases h)), Nat.le_refl _⟩
  | la, x :: R, h => by
    obtain ⟨l1, R1, h1, h2, h3, h4, h5⟩ := give_most a la R fun y hy => h y (List.mem_cons_of_mem _ hy)
    have hax : a ≤ x.1 := h x List.mem_cons_self
    by_cases hx : x.2 ≤ l1
    · refine ⟨l1, x :: R1, by simp [h1], fun M => ?_, fun M hw => ?_, fun y hy => ?_, ?_⟩
      · have := h2 M
        simp only [roomW_cons] at this ⊢
        omega
      · have hw1 := h3 M fun y hy => hw y (by rcases List.mem_cons.1 hy with rfl | z; exact List.mem_cons_self; exact List.mem_cons_of_mem _ (List.mem_cons_of_mem _ z))
        intro y hy
        rcases List.mem_cons.1 hy with rfl | z
        · exact hw1 _ List.mem_cons_self
        · rcases List.mem_cons.1 z with rfl | z
          · exact hw _ (List.mem_cons_of_mem _ List.mem_cons_self)
          · exact hw1 y (List.mem_cons_of_mem _ z)
      · rcases List.mem_cons.1 hy with rfl | z
        · exact hx
        · exact h4 y z
      · simp only [costW_cons] at h5 ⊢
        omega
    · refine ⟨x.2, (x.1, l1) :: R1, by simp [h1], fun M => ?_, fun M hw => ?_, fun y hy => ?_, ?_⟩
      · have := h2 M
        simp only [roomW_cons] at this ⊢
        omega
      · have hw1 := h3 M fun y hy => hw y (by rcases List.mem_cons.1 hy with rfl | z; exact List.mem_cons_self; exact List.mem_cons_of_mem _ (List.mem_cons_of_mem _ z))
        intro y hy
        rcases List.mem_cons.1 hy with rfl | z
        · exact hw x (List.mem_cons_of_mem _ List.mem_cons_self)
        · rcases List.mem_cons.1 z with rfl | z
          · exact hw1 (a, l1) List.mem_cons_self
          · exact hw1 y (List.mem_cons_of_mem _ z)
      · rcases List.mem_cons.1 hy with rfl | z
        · show l1 ≤ x.2; omega
        · have := h4 y z; omega
      · simp only [costW_cons] at h5 ⊢
        obtain ⟨d, hd⟩ : ∃ d, x.2 = l1 + d := ⟨x.2 - l1, by omega⟩
        have e1 : a * x.2 = a * l1 + a * d := by rw [hd, Nat.mul_add]
        have e2 : x.1 * x.2 = x.1 * l1 + x.1 * d := by rw [hd, Nat.mul_add]
        have e3 : a * d ≤ x.1 * d := Nat.mul_le_mul_right _ hax
        omega
/-- Where no length is greater than m, room is taken in whole parts of two to m. -/
theorem room_dvd {M m : Nat} : ∀ (R : List (Nat × Nat)), (∀ x ∈ R, x.2 ≤ m) → 2 ^ (M - m) ∣ roomW M R
  | [], _ => by simp [roomW]
  | x :: R, h => by
    rw [roomW_cons]
    refine Nat.dvd_add (Nat.pow_dvd_pow 2 ?_) (room_dvd R fun y hy => h y (List.mem_cons_of_mem _ hy))
    have := h x List.mem_cons_self
    omega
/-- The two lightest may be put together: the room suffices, and it costs as much less as they weigh. -/
theorem put_together {M a b la lb : Nat} {R : List (Nat × Nat)} (hab : a ≤ b) (hb : ∀ x ∈ R, b ≤ x.1) (hw : within M ((a, la) :: (b, lb) :: R)) (hr : roomW M ((a, la) :: (b, lb) :: R) ≤ 2 ^ M) :
    ∃ m R', R'.map Prod.fst = R.map Prod.fst ∧ within M ((a + b, m) :: R') ∧ roomW M ((a + b, m) :: R') ≤ 2 ^ M ∧ costW ((a + b, m) :: R') + (a + b) ≤ costW ((a, la) :: (b, lb) :: R) := by
  obtain ⟨l1, R1, h1, h2, h3, h4, h5⟩ := give_most a la ((b, lb) :: R) fun x hx => by
    rcases List.mem_cons.1 hx with rfl | z
    · exact hab
    · have := hb x z; omega
  cases R1 with
  | nil => simp at h1
  | cons y R1 =>
    obtain ⟨yw, yl⟩ := y
    simp only [List.map_cons, List.cons.injEq] at h1
    obtain ⟨rfl, h1⟩ := h1
    have hb1 : ∀ x ∈ R1, yw ≤ x.1 := fun x hx => by
      have : x.1 ∈ R.map Prod.fst := by rw [← h1]; exact List.mem_map_of_mem hx
      obtain ⟨z, hz, e⟩ := List.mem_map.1 this
      have := hb z hz
      omega
    obtain ⟨l2, R2, k1, k2, k3, k4, k5⟩ := give_most yw yl R1 hb1
    have hw1 := h3 M hw
    have hw2 := k3 M fun x hx => hw1 x (List.mem_cons_of_mem _ hx)
    have hl2 : l2 ≤ l1 := by
      -- the lengths of the rest are as they were
      have hmax : ∀ x ∈ (yw, yl) :: R1, x.2 ≤ l1 := h4
      have hq := k3 l1 hmax
      exact hq (yw, l2) List.mem_cons_self
    have hl2M : l2 ≤ M := hw2 (yw, l2) List.mem_cons_self
    have e1 := h2 M
    have e2 := k2 M
    rw [roomW_cons] at e1
    rw [e1.symm, ← e2, roomW_cons] at hr
    have hpos : 0 < 2 ^ (M - l1) := Nat.two_pow_pos _
    have hdv := room_dvd (M := M) R2 k4
    -- in parts of two to l2
    have htwo : 2 * 2 ^ (M - l2) + roomW M R2 ≤ 2 ^ M := by
      obtain ⟨q, hq⟩ := hdv
      obtain ⟨t, ht⟩ : 2 ^ (M - l2) ∣ 2 ^ M := Nat.pow_dvd_pow 2 (by omega)
      rw [hq] at hr ⊢
      rw [ht] at hr ⊢
      obtain ⟨u, hu⟩ : ∃ u, 2 ^ (M - l2) = u := ⟨_, rfl⟩
      simp only [hu] at hr ⊢
      have hup : 0 < u := by rw [← hu]; exact Nat.two_pow_pos _
      have h6 : u * (1 + q) < u * t := by rw [Nat.mul_add, Nat.mul_one]; omega
      have h7 : 1 + q < t := Nat.lt_of_mul_lt_mul_left h6
      have h8 : u * (2 + q) ≤ u * t := Nat.mul_le_mul_left _ (by omega)
      rw [Nat.mul_add, Nat.mul_comm u 2] at h8
      omega
    have hl21 : 1 ≤ l2 := by
      rcases Nat.eq_zero_or_pos l2 with z | z
      · rw [z, Nat.sub_zero] at htwo
        have := Nat.two_pow_pos M
        omega
      · exact z
    obtain ⟨m, rfl⟩ : ∃ m, l2 = m + 1 := ⟨l2 - 1, by omega⟩
    refine ⟨m, R2, by rw [k1, h1], fun x hx => ?_, ?_, ?_⟩
    · rcases List.mem_cons.1 hx with rfl | z
      · show m ≤ M; omega
      · exact hw2 x (List.mem_cons_of_mem _ z)
    · rw [roomW_cons]
      show 2 ^ (M - m) + _ ≤ _
      have : 2 ^ (M - m) = 2 * 2 ^ (M - (m + 1)) := by
        rw [show M - m = (M - (m + 1)) + 1 by omega, Nat.pow_succ]; omega
      omega
    · simp only [costW_cons] at h5 k5 ⊢
      have e3 : (a + yw) * m + (a + yw) = a * (m + 1) + yw * (m + 1) := by
        rw [Nat.add_mul, Nat.mul_add, Nat.mul_add]; omega
      have e4 : a * (m + 1) ≤ a * l1 := Nat.mul_le_mul_left _ hl2
      omega
/-- No other lengths that fit cost less. -/
def Best (G : List (Nat × Nat)) : Prop := ∀ (M : Nat) (L : List (Nat × Nat)), (L.map Prod.fst).Perm (G.map Prod.fst) → within M L → roomW M L ≤ 2 ^ M → costW G ≤ costW L
theorem Best.perm {G H : List (Nat × Nat)} (h : Best G) (p : G.Perm H) : Best H := fun M L q hw hr => by
  rw [← costW_perm p]
  exact h M L (q.trans (p.map _).symm) hw hr
theorem best_one (w : Nat) : Best [(w, 0)] := fun M L _ _ _ => by simp [costW]
/-- Some one has a weight that is there. -/
theorem take_out {L : List (Nat × Nat)} {a : Nat} {ws : List Nat} (p : (L.map Prod.fst).Perm (a :: ws)) : ∃ la R, L.Perm ((a, la) :: R) ∧ (R.map Prod.fst).Perm ws := by
  have hm : a ∈ L.map Prod.fst := p.symm.subset List.mem_cons_self
  obtain ⟨x, hx, e⟩ := List.mem_map.1 hm
  have hp := List.perm_cons_erase hx
  refine ⟨x.2, L.erase x, by rw [← e]; exact hp, ?_⟩
  have := (hp.map Prod.fst).symm.trans p
  rw [List.map_cons, e] at this
  exact this.cons_inv
/-- HUFFMAN: where the two lightest are put together, and the lengths that come of it are the best ones, each of the two one longer, they are the best ones. -/
theorem Best.step {a b d : Nat} {R : List (Nat × Nat)} (h : Best ((a + b, d) :: R)) (hab : a ≤ b) (hb : ∀ x ∈ R, b ≤ x.1) : Best ((a, d + 1) :: (b, d + 1) :: R) := by
  intro M L p hw hr
  obtain ⟨la, R1, p1, q1⟩ := take_out p
  obtain ⟨lb, R2, p2, q2⟩ := take_out q1
  have pp : L.Perm ((a, la) :: (b, lb) :: R2) := p1.trans (p2.cons _)
  rw [costW_perm pp]
  rw [roomW_perm pp] at hr
  have hw2 : within M ((a, la) :: (b, lb) :: R2) := fun x hx => hw x (pp.symm.subset hx)
  have hb2 : ∀ x ∈ R2, b ≤ x.1 := fun x hx => by
    have : x.1 ∈ R.map Prod.fst := q2.subset (List.mem_map_of_mem hx)
    obtain ⟨z, hz, e⟩ := List.mem_map.1 this
    have := hb z hz
    omega
  obtain ⟨m, R3, e3, w3, r3, c3⟩ := put_together hab hb2 hw2 hr
  have := h M ((a + b, m) :: R3) (by simp only [List.map_cons]; rw [e3]; exact q2.cons _) w3 r3
  simp only [costW_cons] at this c3 ⊢
  have e4 : (a + b) * d + (a + b) = a * (d + 1) + b * (d + 1) := by
    rw [Nat.add_mul, Nat.mul_add, Nat.mul_add]; omega
  omega
theorem room_step {M a b d : Nat} {R : List (Nat × Nat)} (h : d + 1 ≤ M) : roomW M ((a, d + 1) :: (b, d + 1) :: R) = roomW M ((a + b, d) :: R) := by
  simp only [roomW_cons]
  rw [show M - d = (M - (d + 1)) + 1 by omega, Nat.pow_succ]
  omega
/-- With the best lengths who weighs more is no longer. -/
theorem Best.mono {M : Nat} {G : List (Nat × Nat)} (h : Best G) (hw : within M G) (hr : roomW M G ≤ 2 ^ M) {x y : Nat × Nat} {R : List (Nat × Nat)} (p : G.Perm (x :: y :: R)) (hxy : y.1 < x.1) : x.2 ≤ y.2 := by
  rcases Nat.lt_or_ge y.2 x.2 with q | q
  · exfalso
    rw [roomW_perm p] at hr
    have hwx : within M (x :: y :: R) := fun z hz => hw z (p.symm.subset hz)
    have := h M ((x.1, y.2) :: (y.1, x.2) :: R) (by simpa using (p.map Prod.fst).symm) (fun z hz => by
      rcases List.mem_cons.1 hz with rfl | z2
      · exact hwx y (List.mem_cons_of_mem _ List.mem_cons_self)
      · rcases List.mem_cons.1 z2 with rfl | z2
        · exact hwx x List.mem_cons_self
        · exact hwx z (List.mem_cons_of_mem _ (List.mem_cons_of_mem _ z2))) (by simp only [roomW_cons] at hr ⊢; omega)
    rw [costW_perm p] at this
    simp only [costW_cons] at this
    obtain ⟨u, hu⟩ : ∃ u, x.2 = y.2 + (u + 1) := ⟨x.2 - y.2 - 1, by omega⟩
    obtain ⟨v, hv⟩ : ∃ v, x.1 = y.1 + (v + 1) := ⟨x.1 - y.1 - 1, by omega⟩
    have e1 : x.1 * x.2 = x.1 * y.2 + x.1 * (u + 1) := by rw [hu, Nat.mul_add]
    have e2 : y.1 * x.2 = y.1 * y.2 + y.1 * (u + 1) := by rw [hu, Nat.mul_add]
    have e3 : x.1 * (u + 1) = y.1 * (u + 1) + (v + 1) * (u + 1) := by rw [hv, Nat.add_mul]
    have e4 : 0 < (v + 1) * (u + 1) := Nat.mul_pos (Nat.succ_pos _) (Nat.succ_pos _)
    omega
  · exact q
#print axioms Best.step
#print axioms Best.mono
end Go.Proofs.YtlaeaeciomkababDoor
