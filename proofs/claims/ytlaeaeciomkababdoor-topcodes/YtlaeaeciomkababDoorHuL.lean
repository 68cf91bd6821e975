/-
  Package huff: Lengths; what the lengths are good for.
-/
import Derived.Test.YtlaeaeciomkababDoorHuF
import Derived.Test.YtlaeaeciomkababDoorSameZ
namespace Go.Proofs.YtlaeaeciomkababDoor
open Go.RowKit Go.Sort Go.Proofs

set_option maxHeartbeats 4000000 in
theorem lengths_bad {w : World} {v : Value} {l : List Int} (h : SlE EZ w v l) (hbig : l.length ≤ 9223372036854775807) (h0 : wrongC l 1000 ≠ 0) :
    Calls Tryd.prog 10 #[v] w fun e w' => e = .returned (.tuple #[.slice none 0 0, .iface 48 (.int .i64 (wrongC l 1000 : Nat))]) ∧ w' = w := by
  obtain ⟨p, cap, rfl, _⟩ := id h
  have C := hcheck_any _ l 1000 w h hbig
  rw [errC_ne h0] at C
  generalize wrongC l 1000 = z at C ⊢
  generalize l.length = n at C
  have HC := hidp C
  clear C h h0 hbig
  go_enter Tryd.func10, Tryd.ntmps10
  go_wp2_with (go_at_call 25; refine HC.out.mono ?_; rintro e w' ⟨rfl, rfl⟩)
  go_ret2
  exact ⟨rfl, rfl⟩
set_option maxHeartbeats 4000000 in
theorem lengths_ok {w : World} {v : Value} {l : List Int} (h : SlE EZ w v l) (h0 : wrongC l 1000 = 0) :
    Calls Tryd.prog 10 #[v] w fun e w' => ∃ g c, e = .returned (.tuple #[.slice (some ⟨g, 0, none⟩) l.length c, .nilIface]) ∧ l.length ≤ c ∧ RdE EZ w' g 0 (lensU (natL l)) ∧ w.heap.size ≤ g ∧ Below w.heap.size w w' := by
  obtain ⟨p, cap, rfl, _⟩ := id h
  have CF := found_any h h0
  have hb := (wrongC_zero h0).2.1
  have C := hcheck_any _ l 1000 w h (by omega)
  rw [errC_nil h0] at C
  generalize l.length = n at C CF ⊢
  have HC := hidp C
  have HF := hidp CF
  clear C CF h h0 hb
  go_enter Tryd.func10, Tryd.ntmps10
  go_wp2_with (first | (go_at_call 25; refine HC.out.mono ?_; rintro e w' ⟨rfl, rfl⟩) | (go_at_call 26; refine HF.out.mono ?_; rintro e w2 ⟨g, c, rfl, hnc, hr, hg, hb⟩; have HR := hidp hr; have HB := hidp hb; clear hr hb))
  go_ret2
  exact ⟨g, c, rfl, hnc, HR.out, hg, HB.out⟩
theorem lensU_len (ws : List Nat) : (lensU ws).length = ws.length := by unfold lensU; simp
theorem lensU_get {ws : List Nat} {s : Nat} (hs : s < ws.length) : (lensU ws)[s]? = some (lenU ws s : Int) := by
  unfold lensU
  rw [List.getElem?_map, List.getElem?_range hs]; rfl
theorem natL_lensU (ws : List Nat) : natL (lensU ws) = (List.range ws.length).map (lenU ws) := by
  unfold natL lensU
  rw [List.map_map]
  apply List.map_congr_left
  intro s _
  simp
theorem natL_len (l : List Int) : (natL l).length = l.length := by unfold natL; rw [List.length_map]
/-- Weights with their lengths. -/
theorem withD_zip (ws : List Nat) (D : Nat → Nat) : withD D (gr0 ws) = ws.zip ((List.range ws.length).map D) := by
  unfold withD gr0
  apply List.ext_getElem?
  intro i
  rw [List.getElem?_map, List.getElem?_zipIdx]
  rcases Nat.lt_or_ge i ws.length with h | h
  · rw [List.getElem?_eq_getElem h]
    simp only [Option.map_some, Nat.zero_add]
    symm
    rw [List.getElem?_zip_eq_some]
    exact ⟨List.getElem?_eq_getElem h, by rw [List.getElem?_map, List.getElem?_range h]; rfl⟩
  · rw [List.getElem?_eq_none h]
    symm
    rw [Option.map_none, Option.map_none, List.getElem?_eq_none]
    simp [List.length_zip]
    exact h
/-- The weights, each with its length. -/
def wl (ws : List Nat) : List (Nat × Nat) := withD (huffD (ws.length - 1) ws.length (gr0 ws)) (gr0 ws)
theorem zip_wl (l : List Int) : zipI l (lensU (natL l)) = wl (natL l) := by
  unfold zipI wl
  rw [natL_lensU, withD_zip]
  rfl
theorem wl_fst (ws : List Nat) : (wl ws).map Prod.fst = ws := by
  unfold wl
  rw [withD_zip, List.map_fst_zip]
  simp
theorem wl_get {ws : List Nat} {i : Nat} (hi : i < ws.length) : (wl ws)[i]? = some (ws[i], lenU ws i) := by
  unfold wl
  rw [withD_zip, List.getElem?_zip_eq_some]
  exact ⟨List.getElem?_eq_getElem hi, by rw [List.getElem?_map, List.getElem?_range hi]; rfl⟩
theorem roomW_snd (M : Nat) (A B : List (Nat × Nat)) (h : A.map Prod.snd = B.map Prod.snd) : roomW M A = roomW M B := by
  unfold roomW
  have e : ∀ L : List (Nat × Nat), (L.map fun x => 2 ^ (M - x.2)) = (L.map Prod.snd).map fun n => 2 ^ (M - n) := fun L => by rw [List.map_map]; rfl
  rw [e, e, h]
theorem lensU_ok {ws : List Nat} (h0 : 0 < ws.length) (h40 : ws.length ≤ 40) : wrongC (lensU ws) 40 = 0 := wrongC_of (by rw [lensU_len]; exact h0) (by rw [lensU_len]; exact h40) fun x hx => by
  unfold lensU at hx
  obtain ⟨s, hs, rfl⟩ := List.mem_map.1 hx
  have := (lenU_fact h0).2.1 s (List.mem_range.1 hs)
  omega
theorem roomI_zip (w l : List Int) (h : l.length = w.length) : roomI l = roomW 40 (zipI w l) := by
  unfold roomI
  refine roomW_snd _ _ _ ?_
  unfold zipI
  rw [List.map_map, List.map_snd_zip (by rw [natL_len, natL_len, h]; exact Nat.le_refl _)]
  rfl
theorem lensU_full {l : List Int} (h0 : 0 < l.length) (h40 : l.length ≤ 40) : roomI (lensU (natL l)) = 1099511627776 := by
  rw [roomI_zip l _ (by rw [lensU_len, natL_len]), zip_wl]
  exact (lenU_fact (ws := natL l) (by rw [natL_len]; exact h0)).2.2 40 (by rw [natL_len]; omega)
theorem within_zip {w l : List Int} (h : ∀ x ∈ l, 0 ≤ x ∧ x ≤ 40) : within 40 (zipI w l) := fun x hx => by
  have h2 := (List.of_mem_zip (a := x.1) (b := x.2) hx).2
  unfold natL at h2
  obtain ⟨y, hy, e⟩ := List.mem_map.1 h2
  have := h y hy
  omega
/-- HUFFMAN: no lengths that fit cost less. -/
theorem lensU_best {w l : List Int} (h0 : wrongC w 1000 = 0) (hp : wrongP w l = 0) (hr : roomI l ≤ 1099511627776) {ws : List Nat} (p : (natL w).Perm ws) : costW (wl ws) ≤ costW (zipI w l) := by
  obtain ⟨_, hlen, hl⟩ := wrongP_zero hp
  obtain ⟨hpos, _, _⟩ := wrongC_zero h0
  have hws : 0 < ws.length := by rw [← p.length_eq, natL_len]; exact hpos
  refine (lenU_fact hws).1 40 (zipI w l) ?_ (within_zip (wrongC_zero hl).2.2) (by rw [← roomI_zip w l hlen]; exact hr)
  have e1 : (zipI w l).map Prod.fst = natL w := by unfold zipI; rw [List.map_fst_zip (by rw [natL_len, natL_len, hlen]; exact Nat.le_refl _)]
  rw [e1]
  have e2 : (withD (huffD (ws.length - 1) ws.length (gr0 ws)) (gr0 ws)).map Prod.fst = ws := wl_fst ws
  rw [e2]
  exact p
/-- Who weighs more is no longer. -/
theorem lensU_mono {ws : List Nat} (h0 : 0 < ws.length) (h40 : ws.length ≤ 41) {i j : Nat} (hi : i < ws.length) (hj : j < ws.length) (h : ws[j] < ws[i]) : lenU ws i ≤ lenU ws j := by
  obtain ⟨hb, hw, hr⟩ := lenU_fact h0
  have gi := wl_get hi
  have gj := wl_get hj
  have mi := List.mem_of_getElem? gi
  have mj := List.mem_of_getElem? gj
  have ne : (ws[j], lenU ws j) ≠ (ws[i], lenU ws i) := fun e => by
    have := (Prod.mk.inj e).1
    omega
  have p1 := List.perm_cons_erase mi
  have p2 := List.perm_cons_erase ((List.mem_erase_of_ne ne).2 mj)
  have hwi : within 40 (wl ws) := fun x hx => by
    unfold wl withD at hx
    obtain ⟨g, hg, rfl⟩ := List.mem_map.1 hx
    have hg2 : g.2 ∈ (gr0 ws).map Prod.snd := List.mem_map_of_mem hg
    rw [gr0_snd] at hg2
    have := hw _ (List.mem_range.1 hg2)
    unfold lenU at this
    show huffD _ _ _ _ ≤ 40
    omega
  exact Best.mono (M := 40) (G := wl ws) hb hwi (by rw [show roomW 40 (wl ws) = 2 ^ 40 from hr 40 (by omega)]; exact Nat.le_refl _) (p1.trans (p2.cons _)) h
#print axioms lengths_ok
#print axioms lensU_best
#print axioms lensU_mono
end Go.Proofs.YtlaeaeciomkababDoor
