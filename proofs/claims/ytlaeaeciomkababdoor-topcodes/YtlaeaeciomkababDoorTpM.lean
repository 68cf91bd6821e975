/-
  From a text to bits and back: what the law TopCodes keeps while it counts; what Huffman's lengths give for so few.
-/
import Derived.Test.YtlaeaeciomkababDoorHuL
import Derived.Test.YtlaeaeciomkababDoorHuDeep
import Derived.Test.YtlaeaeciomkababDoorCoDe
namespace Go.Proofs.YtlaeaeciomkababDoor
open Go.RowKit Go.Sort Go.Proofs

def natI (W : List Nat) : List Int := W.map fun (a : Nat) => (a : Int)
theorem natI_len (W : List Nat) : (natI W).length = W.length := by unfold natI; rw [List.length_map]
theorem natL_natI (W : List Nat) : natL (natI W) = W := by
  unfold natL natI
  rw [List.map_map]
  conv => rhs; rw [← List.map_id W]
  apply List.map_congr_left
  intro a _
  simp
theorem natI_append (A B : List Nat) : natI (A ++ B) = natI A ++ natI B := by unfold natI; rw [List.map_append]
theorem natI_set (W : List Nat) (k a : Nat) : natI (W.set k a) = (natI W).set k (a : Int) := by unfold natI; rw [List.map_set]
theorem natI_get {W : List Nat} {k a : Nat} (h : W[k]? = some a) : (natI W)[k]? = some (a : Int) := by unfold natI; rw [List.getElem?_map, h]; rfl

/-- Weights by what each place counts. -/
def dotF (f : Nat → Nat) : Nat → List Nat → Nat
  | _, [] => 0
  | s, a :: t => a * f s + dotF f (s + 1) t
theorem dotF_append (f : Nat → Nat) : ∀ (W : List Nat) (s a : Nat), dotF f s (W ++ [a]) = dotF f s W + a * f (s + W.length)
  | [], s, a => by simp [dotF]
  | b :: t, s, a => by
    rw [List.cons_append, dotF, dotF, dotF_append f t, List.length_cons, show s + 1 + t.length = s + (t.length + 1) by omega]; omega
theorem dotF_set (f : Nat → Nat) : ∀ {W : List Nat} {s k a : Nat}, W[k]? = some a → dotF f s (W.set k (a + 1)) = dotF f s W + f (s + k)
  | [], _, k, a, h => by simp at h
  | b :: t, s, 0, a, h => by
    simp only [List.getElem?_cons_zero, Option.some.injEq] at h
    subst h
    rw [List.set_cons_zero, dotF, dotF, Nat.add_mul, Nat.one_mul]
    show _ = _ + f s
    omega
  | b :: t, s, k + 1, a, h => by
    rw [List.getElem?_cons_succ] at h
    rw [List.set_cons_succ, dotF, dotF, dotF_set f h, show s + 1 + k = s + (k + 1) by omega]; omega
theorem dotF_one : ∀ (W : List Nat) (s : Nat), dotF (fun _ => 1) s W = W.sum
  | [], _ => rfl
  | a :: t, s => by rw [dotF, dotF_one t, List.sum_cons, Nat.mul_one]
theorem cost_dot (f : Nat → Nat) : ∀ (W : List Nat) (s : Nat), costW (W.zip ((List.range' s W.length).map f)) = dotF f s W
  | [], _ => rfl
  | a :: t, s => by
    rw [List.length_cons, List.range'_succ, List.map_cons, List.zip_cons_cons, costW_cons, dotF, cost_dot f t]
/-- So far: names, how often each came, which name each came as. -/
structure TopI (R : List Int) (i : Nat) (ns : List Int) (W K : List Nat) : Prop where
  wl : W.length = ns.length
  pos : ∀ a ∈ W, 1 ≤ a
  sum : W.sum = i
  kl : K.length = i
  at_ : ∀ (j k : Nat), K[j]? = some k → k < ns.length ∧ ns[k]? = R[j]?
  dot : ∀ f : Nat → Nat, dotF f 0 W = (K.map f).sum
  few : ns.length ≤ i
theorem TopI.begin (R : List Int) : TopI R 0 [] [] [] := ⟨rfl, fun a h => (by cases h), rfl, rfl, fun j k h => (by simp at h), fun f => rfl, Nat.le_refl _⟩
theorem get_snoc {α : Type} {K : List α} {j : Nat} {k a : α} (h : (K ++ [a])[j]? = some k) : K[j]? = some k ∨ (j = K.length ∧ k = a) := by
  rcases Nat.lt_or_ge j K.length with z | z
  · rw [List.getElem?_append_left z] at h
    exact Or.inl h
  · rw [List.getElem?_append_right z] at h
    rcases Nat.eq_or_lt_of_le z with y | y
    · rw [← y, Nat.sub_self] at h
      simp only [List.getElem?_cons_zero, Option.some.injEq] at h
      exact Or.inr ⟨y.symm, h.symm⟩
    · rw [List.getElem?_eq_none (by simp; omega)] at h
      cases h
theorem TopI.old {R : List Int} {i k a : Nat} {ns : List Int} {W K : List Nat} {x : Int} (h : TopI R i ns W K) (hx : R[i]? = some x) (hk : ns[k]? = some x) (ha : W[k]? = some a) : TopI R (i + 1) ns (W.set k (a + 1)) (K ++ [k]) := by
  have hd := fun f => dotF_set f (s := 0) ha
  have hkl := (List.getElem?_eq_some_iff.1 hk).1
  refine ⟨by rw [List.length_set]; exact h.wl, fun b hb => ?_, ?_, by rw [List.length_append, h.kl]; rfl, fun j y hj => ?_, fun f => ?_, by have := h.few; omega⟩
  · rcases List.mem_or_eq_of_mem_set hb with z | z
    · exact h.pos b z
    · omega
  · rw [← dotF_one _ 0, hd, dotF_one, h.sum]
  · rcases get_snoc hj with z | ⟨rfl, rfl⟩
    · exact h.at_ j y z
    · exact ⟨hkl, by rw [h.kl, hk, hx]⟩
  · rw [hd, h.dot, List.map_append, List.sum_append, Nat.zero_add]
    simp
theorem TopI.new {R : List Int} {i : Nat} {ns : List Int} {W K : List Nat} {x : Int} (h : TopI R i ns W K) (hx : R[i]? = some x) : TopI R (i + 1) (ns ++ [x]) (W ++ [1]) (K ++ [ns.length]) := by
  refine ⟨by rw [List.length_append, List.length_append, h.wl]; rfl, fun b hb => ?_, by rw [List.sum_append, h.sum]; rfl, by rw [List.length_append, h.kl]; rfl, fun j y hj => ?_, fun f => ?_, by have := h.few; rw [List.length_append]; simp; omega⟩
  · rcases List.mem_append.1 hb with z | z
    · exact h.pos b z
    · rw [List.mem_singleton.1 z]; exact Nat.le_refl _
  · rcases get_snoc hj with z | ⟨rfl, rfl⟩
    · obtain ⟨a, b⟩ := h.at_ j y z
      exact ⟨by rw [List.length_append]; omega, by rw [List.getElem?_append_left a, b]⟩
    · exact ⟨by rw [List.length_append]; simp, by rw [List.getElem?_append_right (Nat.le_refl _), Nat.sub_self, h.kl, hx]; rfl⟩
  · rw [dotF_append, h.dot, List.map_append, List.sum_append, h.wl, Nat.zero_add]
    simp
theorem set_last (W : List Nat) (a : Nat) : (natI W ++ [(0 : Int)]).set W.length (a : Int) = natI (W ++ [a]) := by
  rw [natI_append, List.set_append_right _ _ (by rw [natI_len]; exact Nat.le_refl _), natI_len, Nat.sub_self]
  rfl
theorem pow_le64 {e : Nat} (h : e ≤ 6) : 2 ^ e ≤ 64 := Nat.le_trans (Nat.pow_le_pow_right (by decide) h) (by decide)
theorem pow_six {e n : Nat} (hn : n ≤ 40) (hlt : 2 ^ e < n) : e < 6 := by
  rcases Nat.lt_or_ge e 6 with z | z
  · exact z
  · exfalso
    have h1 : 2 ^ 6 ≤ 2 ^ e := Nat.pow_le_pow_right (by decide) z
    have h2 := Nat.lt_of_le_of_lt h1 hlt
    have h3 : n ≤ 2 ^ 6 := Nat.le_trans hn (by decide)
    exact absurd h2 (Nat.not_lt.2 h3)
theorem loop_even {e n b N : Nat} (he6 : e ≤ 6) (hn : n ≤ 40) (hb : b ≤ 60) (hev : ∀ e, e ≤ 40 → n ≤ 2 ^ e → N ≤ e * b) : ∃ P M : Nat, (2 : Int) ^ e = (P : Int) ∧ wrap64 (P : Int) = (P : Int) ∧ (e : Int) * (b : Int) = (M : Int) ∧ wrap64 (M : Int) = (M : Int) ∧ (((P : Int) < (n : Int) ∧ e < 6) ∨ (¬ (P : Int) < (n : Int) ∧ N ≤ M)) := by
  have h1 := pow_le64 he6
  have h2 : e * b ≤ 6 * 60 := Nat.mul_le_mul he6 hb
  have h3 := pow_six (e := e) hn
  have h4 := hev e (by omega)
  have h5 : (2 : Int) ^ e = ((2 ^ e : Nat) : Int) := by simp
  have h6 : (e : Int) * (b : Int) = ((e * b : Nat) : Int) := by simp
  generalize 2 ^ e = P at h1 h3 h4 h5
  generalize e * b = M at h2 h4 h6
  refine ⟨P, M, h5, by unfold wrap64; omega, h6, by unfold wrap64; omega, ?_⟩
  clear h5 h6
  rcases Nat.lt_or_ge P n with z | z
  · exact Or.inl ⟨Int.ofNat_lt.2 z, h3 z⟩
  · have h7 := h4 z
    exact Or.inr ⟨fun q => absurd (Int.ofNat_lt.1 q) (Nat.not_lt.2 z), h7⟩
/-! what lengths give -/
theorem tak_roomM {M : Nat} (hM : M = 2 ^ 20) : ∀ {l : List Int}, (∀ x ∈ l, 0 ≤ x ∧ x ≤ 20) → takK l * M ≤ roomI l
  | [], _ => by unfold takK natL; simp [topC_nil]
  | a :: t, h => by
    have ih := tak_roomM hM (l := t) fun x hx => h x (List.mem_cons_of_mem _ hx)
    obtain ⟨h0, h1⟩ := h a List.mem_cons_self
    have e : takK (a :: t) = takK t + (if 0 < a.toNat ∧ a.toNat ≤ 20 then 2 ^ (20 - a.toNat) else 0) := by
      show topC (natL (a :: t)) 20 = _
      rw [show natL (a :: t) = a.toNat :: natL t from rfl, topC_cons]; rfl
    have e2 : roomI (a :: t) = 2 ^ (40 - a.toNat) + roomI t := by simp [roomI, roomW]
    have e3 : 2 ^ (20 - a.toNat) * M = 2 ^ (40 - a.toNat) := by
      rw [hM, ← Nat.pow_add]
      congr 1
      omega
    rw [e, e2, Nat.add_mul]
    by_cases hz : 0 < a.toNat ∧ a.toNat ≤ 20
    · rw [if_pos hz, e3, Nat.add_comm]
      exact Nat.add_le_add_left ih _
    · rw [if_neg hz, Nat.zero_mul, Nat.add_zero]
      exact Nat.le_trans ih (Nat.le_add_left _ _)
theorem tak_few {l : List Int} (h : ∀ x ∈ l, 0 ≤ x ∧ x ≤ 20) (hr : roomI l = 1099511627776) : takK l ≤ 1048576 := by
  have h1 := tak_roomM rfl h
  rw [hr] at h1
  have h2 : takK l * 2 ^ 20 ≤ 2 ^ 20 * 2 ^ 20 := Nat.le_trans h1 (by decide)
  exact Nat.le_trans (Nat.le_of_mul_le_mul_right h2 (by decide)) (by decide)
theorem room_ge : ∀ {l : List Int}, l.length ≤ roomI l
  | [] => Nat.zero_le _
  | a :: t => by
    have ih := room_ge (l := t)
    have e2 : roomI (a :: t) = 2 ^ (40 - a.toNat) + roomI t := by simp [roomI, roomW]
    have : 0 < 2 ^ (40 - a.toNat) := Nat.pos_of_ne_zero (by simp)
    rw [e2, List.length_cons]; omega
theorem room_zero : ∀ {l : List Int}, (0 : Int) ∈ l → 1099511627776 + (l.length - 1) ≤ roomI l
  | a :: t, h => by
    have e2 : roomI (a :: t) = 2 ^ (40 - a.toNat) + roomI t := by simp [roomI, roomW]
    have hg := room_ge (l := t)
    rw [e2, List.length_cons]
    rcases List.mem_cons.1 h with z | z
    · subst z
      have : (2 : Nat) ^ (40 - (0 : Int).toNat) = 1099511627776 := rfl
      omega
    · have ih := room_zero z
      have : 0 < 2 ^ (40 - a.toNat) := Nat.pos_of_ne_zero (by simp)
      omega
theorem room_even (e : Nat) : ∀ n, roomI (List.replicate n (e : Int)) = n * 2 ^ (40 - e)
  | 0 => by simp [roomI, roomW]
  | n + 1 => by
    have ih := room_even e n
    have e2 : roomI ((e : Int) :: List.replicate n (e : Int)) = 2 ^ (40 - e) + roomI (List.replicate n (e : Int)) := by simp [roomI, roomW]
    rw [List.replicate_succ, e2, ih, Nat.add_mul, Nat.one_mul]; omega
theorem cost_even (e : Nat) : ∀ (W : List Nat), costW (W.zip (List.replicate W.length e)) = e * W.sum
  | [] => rfl
  | a :: t => by
    rw [List.length_cons, List.replicate_succ, List.zip_cons_cons, costW_cons, cost_even e t, List.sum_cons, Nat.mul_add, Nat.mul_comm a]
theorem le_sum : ∀ {l : List Nat} {a : Nat}, a ∈ l → a ≤ l.sum
  | b :: t, a, h => by
    rw [List.sum_cons]
    rcases List.mem_cons.1 h with z | z
    · omega
    · have := le_sum z; omega
/-- All that the law wants of the lengths for how often each came. -/
structure TopL (W : List Nat) : Prop where
  wrong0 : wrongC (natI W) 1000 = 0
  wrong1 : wrongP (natI W) (lensU W) = 0
  wrong2 : wrongK (lensU W) = 0
  some_ : ∀ k, k < W.length → (codesI (lensU W)).getD k [] ≠ []
  long : ∀ k, k < W.length → ((codesI (lensU W)).getD k []).length = lenU W k
  even : ∀ e, e ≤ 40 → W.length ≤ 2 ^ e → costW (wl W) ≤ e * W.sum
theorem TopL.of {W : List Nat} (h1 : ∀ a ∈ W, 1 ≤ a) (hs : W.sum ≤ 60) (h2 : 2 ≤ W.length) (h40 : W.length ≤ 40) : TopL W := by
  have hle : ∀ a ∈ W, a ≤ W.sum := fun a ha => le_sum ha
  have w0 : wrongC (natI W) 1000 = 0 := wrongC_of (by rw [natI_len]; omega) (by rw [natI_len]; exact h40) fun x hx => by
    unfold natI at hx
    obtain ⟨a, ha, rfl⟩ := List.mem_map.1 hx
    have := hle a ha
    omega
  have hdeep : ∀ x ∈ lensU W, 0 ≤ x ∧ x ≤ 20 := fun x hx => by
    unfold lensU at hx
    obtain ⟨s, hs', rfl⟩ := List.mem_map.1 hx
    have := lenU_deep h1 hs s (List.mem_range.1 hs')
    omega
  have hfull : roomI (lensU W) = 1099511627776 := by
    have := lensU_full (l := natI W) (by rw [natI_len]; omega) (by rw [natI_len]; exact h40)
    rwa [natL_natI] at this
  have w1 : wrongP (natI W) (lensU W) = 0 := wrongP_of w0 (by rw [lensU_len, natI_len]) (lensU_ok (by omega) h40)
  have w2 : wrongK (lensU W) = 0 := by
    refine wrongK_ok (by rw [lensU_len]; exact h40) (fun i x hx => outC_of (hdeep x (List.mem_of_getElem? hx)).1 (hdeep x (List.mem_of_getElem? hx)).2) ?_
    exact tak_few hdeep hfull
  have hlong : ∀ k, k < W.length → ((codesI (lensU W)).getD k []).length = lenU W k := fun k hk => by
    have hk2 : k < (lensU W).length := by rw [lensU_len]; exact hk
    rw [List.getD_eq_getElem?_getD, codesI_get hk2]
    show (codeB (natL (lensU W)) k).length = _
    rw [codeB_len, natL_lensU, List.getD_eq_getElem?_getD, List.getElem?_map, List.getElem?_range hk]
    rfl
  refine ⟨w0, w1, w2, fun k hk e => ?_, hlong, fun e he hn => ?_⟩
  · have h0 := hlong k hk
    rw [e, List.length_nil] at h0
    have hm : (0 : Int) ∈ lensU W := by
      refine List.mem_of_getElem? (i := k) ?_
      rw [lensU_get hk, ← h0]; rfl
    have := room_zero hm
    rw [hfull, lensU_len] at this
    omega
  · have hr := room_even e W.length
    have hp : W.length * 2 ^ (40 - e) ≤ 1099511627776 := by
      have h3 : W.length * 2 ^ (40 - e) ≤ 2 ^ e * 2 ^ (40 - e) := Nat.mul_le_mul_right _ hn
      rw [← Nat.pow_add, show e + (40 - e) = 40 by omega] at h3
      exact h3
    have := lensU_best (w := natI W) (l := List.replicate W.length (e : Int)) w0 (wrongP_of w0 (by rw [List.length_replicate, natI_len]) (wrongC_of (by rw [List.length_replicate]; omega) (by rw [List.length_replicate]; exact h40) fun x hx => by rw [List.eq_of_mem_replicate hx]; omega)) (by rw [hr]; exact hp) (ws := W) (by rw [natL_natI])
    refine Nat.le_trans this ?_
    unfold zipI
    rw [natL_natI, show natL (List.replicate W.length (e : Int)) = List.replicate W.length e from by unfold natL; rw [List.map_replicate]; rfl, cost_even]
    exact Nat.le_refl _
theorem cost_is {R : List Int} {i : Nat} {ns : List Int} {W K : List Nat} (h : TopI R i ns W K) : costW (wl W) = (K.map (lenU W)).sum := by
  have e : wl W = W.zip ((List.range' 0 W.length).map (lenU W)) := by
    unfold wl
    rw [withD_zip, List.range_eq_range']
    rfl
  rw [e, cost_dot, h.dot]
theorem cat_len {cs : List (List UInt8)} {f : Nat → Nat} : ∀ {K : List Nat}, (∀ k ∈ K, (cs.getD k []).length = f k) → (catB cs (natI K)).length = (K.map f).sum
  | [], _ => rfl
  | k :: t, h => by
    have ih := cat_len (K := t) fun x hx => h x (List.mem_cons_of_mem _ hx)
    have h0 := h k List.mem_cons_self
    rw [show natI (k :: t) = (k : Int) :: natI t from rfl, catB_cons, List.length_append, ih, List.map_cons, List.sum_cons, Int.toNat_natCast, h0]
#print axioms TopL.of
end Go.Proofs.YtlaeaeciomkababDoor
