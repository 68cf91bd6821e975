/-
  Package soft: hasPart, takeLeft, fill.
-/
import Derived.Test.YtdpfijhkbhmkgaaDoorSoN
namespace Go.Proofs.YtdpfijhkbhmkgaaDoor
open Go.RowKit Go.Sort Go.Proofs

/-- A round of filling leaves a node that may be filled, and there are fewer nodes. -/
theorem open_next {r0 : Nat} {k : Int} {r w : Nat} {is : List (Int × Int)} {a b : SN} (H : OpenN r0 k r w is a b) (hc : is.length < w ∧ (a.none? = false ∨ b.none? = false)) {ka : Int} {ra wa : Nat} {ia : List (Int × Int)} {la lb : SN} (e : lessS a b = .node ka ra wa ia la lb) :
    OpenN r0 ka r w (is ++ ia) (if la.none? && lb.none? then .nil else fillS (.node ka ra wa [] la lb)) (moreS a b) ∧ ia ≠ [] ∧ OpenN r0 ka ra wa [] la lb ∧
      (if la.none? && lb.none? then SN.nil else fillS (.node ka ra wa [] la lb)).size + (moreS a b).size < a.size + b.size ∧ la.size + lb.size + 1 + (moreS a b).size = a.size + b.size ∧
      ((if la.none? && lb.none? then SN.nil else fillS (.node ka ra wa [] la lb)).all ++ (moreS a b).all).length + ia.length = (a.all ++ b.all).length := by
  have HL := H.less
  have hmk : (moreS a b).none? = false → ka ≤ (moreS a b).key := fun q => by have := less_key q; rw [e] at this; exact this
  have hsz := less_size a b
  have hall := (less_all a b).length_eq
  rw [e] at HL hsz hall
  rw [SN.size_node] at hsz
  rw [SN.all_node] at hall
  have hga := HL.ga
  obtain ⟨g1, g2, g3, g4, g5⟩ := good_node.1 hga
  have hrr : ra + 1 = r := HL.ra rfl
  have hkk : is ≠ [] → k ≤ ka := fun q => HL.ka q rfl
  have hpart : ∃ c : SN, (if la.none? && lb.none? then SN.nil else fillS (.node ka ra wa [] la lb)) = c ∧ c.good r0 ∧ c.all.Perm (la.all ++ lb.all) ∧ (c.none? = false → c.rank + 1 = r ∧ ka ≤ c.key) ∧ c.size ≤ la.size + lb.size := by
    cases hq : (la.none? && lb.none?)
    · have hp2 : la.none? = false ∨ lb.none? = false := by
        cases h4 : la.none?
        · exact Or.inl rfl
        · rw [h4] at hq; exact Or.inr (by simpa using hq)
      have hO := good_open hga
      obtain ⟨i1, i2, i3, i4, i5⟩ := fillS_good r0 _ ka ra wa [] la lb (Nat.le_refl _) hO (Or.inr hp2)
      refine ⟨_, by rw [if_neg (by simp)], i1, by simpa using i2, fun _ => ⟨by rw [i3]; exact hrr, i5 ka (fun q => absurd rfl q) (fun q => (g4 q).2) (fun q => (g5 q).2)⟩, ?_⟩
      have hw := wants_node.1 (good_wants hga)
      have := fillF_lt (SN.node ka ra wa [] la lb).size ka ra wa la lb hw.1 hw.2.1 hw.2.2 hp2 (Nat.le_refl _)
      unfold fillS
      rw [SN.size_node] at this ⊢
      omega
    · obtain ⟨q1, q2⟩ : la.none? = true ∧ lb.none? = true := by simpa using hq
      rw [SN.none_iff] at q1 q2
      refine ⟨_, by rw [if_pos rfl], good_nil r0, by rw [q1, q2, SN.all_nil]; simp, fun q => by simp [SN.none?] at q, by rw [SN.size_nil]; omega⟩
  obtain ⟨c, ec, hc1, hc2, hc3, hc4⟩ := hpart
  rw [ec]
  have hlen : (is ++ ia).length ≤ mostR r0 r := by
    have h1 := hc.1
    rw [H.want, ← hrr] at h1
    have h2 := mostR_step h1
    rw [hrr] at h2
    rw [List.length_append]
    have := g1.most
    omega
  refine ⟨⟨H.want, hlen, fun x hx => ?_, fun q x hx => ?_, hc1, HL.gb, fun q => (hc3 q).1, HL.rb, fun _ q => (hc3 q).2, fun _ q => hmk q⟩, g1.many, good_open hga, by omega, by omega, ?_⟩
  · rcases List.mem_append.1 hx with m | m
    · have h1 := H.low x m
      have h2 := hkk (List.ne_nil_of_mem m)
      omega
    · exact g1.low x m
  · rcases List.mem_append.1 hx with m | m
    · exfalso
      have h1 := hc.1
      rw [H.want, wantR_low q] at h1
      have := List.length_pos_of_mem m
      omega
    · exact g1.same (by omega) x m
  · have := hc2.length_eq
    simp only [List.length_append] at hall this ⊢
    omega

/-- Has a node a part? -/
def partB (a b : SN) : Bool := !(a.none? && b.none?)
set_option maxHeartbeats 1000000 in
theorem hasPart_any {w : World} {nb : Nat} {iv : Value} {k : Int} {r m : Nat} {pa pb : Option Addr} (h : Nb w nb iv k r m (.pointer pa) (.pointer pb)) :
    Calls Tryd.prog 29 #[.pointer (some ⟨nb, 0, none⟩)] w fun e w' => e = .returned (.bool (pa.isSome || pb.isSome)) ∧ w' = w := by
  obtain ⟨c0, c1, c2, c3, c4, c5⟩ := h.cells
  clear h
  cases pa with
  | none =>
    cases pb with
    | none =>
      go_enter Tryd.func29, Tryd.ntmps29
      go_wp2
      go_ret
      exact ⟨rfl, rfl⟩
    | some q =>
      go_enter Tryd.func29, Tryd.ntmps29
      go_wp2
      go_ret
      exact ⟨rfl, rfl⟩
  | some p =>
    go_enter Tryd.func29, Tryd.ntmps29
    go_wp2
    go_ret
    exact ⟨rfl, rfl⟩
#print axioms open_next
#print axioms hasPart_any
end Go.Proofs.YtdpfijhkbhmkgaaDoor
