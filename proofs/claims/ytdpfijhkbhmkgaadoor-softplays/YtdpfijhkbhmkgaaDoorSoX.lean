/-
  slices.Delete at items and at pointers of package soft. (Written by wip/gen/sodel.py.)
-/
import Derived.Test.YtdpfijhkbhmkgaaDoorSoD
namespace Go.Proofs.YtdpfijhkbhmkgaaDoor
open Go.RowKit Go.Sort Go.Proofs

/-- Pointers to nodes as elements. -/
def EP : El Tryd.prog (Option Addr) where
  enc := fun p => [.pointer p]
  K := 1
  T := 62
  S := 58
  zero := .pointer none
  bytes := 8
  pos := by decide
  small := by decide
  len := fun _ => rfl
  one := fun x v hv => by
    simp only [List.mem_cons, List.not_mem_nil, or_false] at hv
    rw [hv]; rfl
  zlen := rfl
  info := by kernel_rfl
  under := Tryd.underlying58
theorem zeros_of (z : Value) (k : Nat) (c : Array Value) (hc : c.toList = List.replicate k z) (hk : 0 < k) (m : Nat) : (Builtin.zeroCells c m).toList = List.replicate (m * k) z := by
  have hs : c.size = k := by rw [← Array.length_toList, hc]; simp
  simp only [Builtin.zeroCells, hs]
  apply List.ext_getElem
  · simp
  · intro i h1 h2
    have hi : i % k < c.size := by rw [hs]; exact Nat.mod_lt _ hk
    have hi2 : i % k < c.toList.length := by simpa using hi
    simp only [Array.toList_map, Array.toList_range, List.getElem_map, List.getElem_range, List.getElem_replicate]
    rw [getElem!_pos c _ hi]
    have : c[i % k] = c.toList[i % k] := by simp
    rw [this]
    simp only [hc, List.getElem_replicate]
theorem zeros_EP (m : Nat) : (Builtin.zeroCells EP.zero.cells m).toList = EP.flat (List.replicate m none) := by
  rw [zeros_of (.pointer none) 1 EP.zero.cells rfl (by omega) m]
  induction m with
  | zero => rfl
  | succ m ih =>
    have e : EP.flat (List.replicate (m + 1) none) = .pointer none :: EP.flat (List.replicate m none) := rfl
    rw [e, ← ih, show (m + 1) * 1 = m * 1 + 1 by omega, List.replicate_succ]
theorem zeros_EI (m : Nat) : (Builtin.zeroCells EI.zero.cells m).toList = EI.flat (List.replicate m (0, 0)) := by
  rw [zeros_of (.int .i64 0) 2 EI.zero.cells rfl (by omega) m]
  induction m with
  | zero => rfl
  | succ m ih =>
    have e : EI.flat (List.replicate (m + 1) (0, 0)) = .int .i64 0 :: .int .i64 0 :: EI.flat (List.replicate m (0, 0)) := rfl
    rw [e, ← ih, show (m + 1) * 2 = m * 2 + 1 + 1 by omega, List.replicate_succ, List.replicate_succ]
theorem addr_add (g o t : Nat) : (⟨g, o, none⟩ : Addr).add t = ⟨g, o + t, none⟩ := by unfold Addr.add; split <;> simp_all
/-- What slices.Delete makes of a row of one's own. -/
theorem OwnE.deleted {P : Program} {α : Type} {E : El P α} {w : World} {base g n cap i j : Nat} {d : List α} (z0 : α) (h : OwnE E w base (.slice (Option.some ⟨g, 0, none⟩) n cap) d) (hij : i < j) (hj : j ≤ n) :
    OwnE E (w.setCells g (i * E.K) (E.flat (d.drop j))) base (.slice (Option.some ⟨g, 0, none⟩) n cap) (d.take i ++ (d.drop j ++ d.drop (i + (d.drop j).length))) ∧
      OwnE E ((w.setCells g (i * E.K) (E.flat (d.drop j))).setCells g ((i + (n - j)) * E.K) (E.flat (List.replicate (n - (i + (n - j))) z0))) base (.slice (Option.some ⟨g, 0, none⟩) (i + (n - j)) cap) (d.take i ++ d.drop j) ∧
      w.grownBy ((w.setCells g (i * E.K) (E.flat (d.drop j))).setCells g ((i + (n - j)) * E.K) (E.flat (List.replicate (n - (i + (n - j))) z0))) (Option.some g) := by
  obtain ⟨hl, hc, _⟩ := h.capBound
  have hdl : (d.drop j).length = n - j := by simp [hl]
  have h1 := h.stretch (i := i) (zs := d.drop j) (by rw [hdl]; omega)
  have h2 := h1.stretch (i := i + (n - j)) (zs := List.replicate (n - (i + (n - j))) z0) (by simp; omega)
  have h3 := h2.cut (m := i + (n - j)) (by omega)
  refine ⟨h1, ?_, ?_⟩
  · have e : (d.take i ++ (d.drop j ++ d.drop (i + (d.drop j).length))).take (i + (n - j)) = d.take i ++ d.drop j := by
      rw [← List.append_assoc, List.take_append_of_le_length (by simp; omega), List.take_of_length_le (by simp; omega)]
    rw [List.take_append_of_le_length (by simp; omega), List.take_take, Nat.min_self, e] at h3
    exact h3
  · have g1 := gb_setCells w g (i * E.K) (E.flat (d.drop j))
    have g2 := gb_setCells (w.setCells g (i * E.K) (E.flat (d.drop j))) g ((i + (n - j)) * E.K) (E.flat (List.replicate (n - (i + (n - j))) z0))
    exact ⟨g2.os.trans g1.os, g2.tape.trans g1.tape, g2.output.trans g1.output, Nat.le_trans g1.size g2.size, fun k hk hne => (g2.block k (Nat.lt_of_lt_of_le hk g1.size) hne).trans (g1.block k hk hne)⟩
theorem hid2 {p : Prop} (h : p) : Hid p := h

set_option maxHeartbeats 4000000 in
set_option maxRecDepth 1000000 in
theorem deleteP {w : World} {base g n cap i j : Nat} {d : List (Option Addr)} (h : OwnE EP w base (.slice (some ⟨g, 0, none⟩) n cap) d) (hij : i < j) (hj : j ≤ n) :
    Calls Tryd.prog 25 #[.slice (some ⟨g, 0, none⟩) n cap, .int .i64 i, .int .i64 j] w fun e w' => e = .returned (.slice (some ⟨g, 0, none⟩) (i + (n - j)) cap) ∧ OwnE EP w' base (.slice (some ⟨g, 0, none⟩) (i + (n - j)) cap) (d.take i ++ d.drop j) ∧ w.grownBy w' (some g) := by
  obtain ⟨hl, hnc, hcm⟩ := h.capBound
  have hd : OwnE EP w.drew base (.slice (some ⟨g, 0, none⟩) n cap) d := h
  obtain ⟨hA, hB, hC⟩ := OwnE.deleted (w := w.drew) none hd hij hj
  obtain ⟨i0, hi0, hz0, hz1, hz2⟩ := (EP).infoE
  have hdl : (d.drop j).length = n - j := by simp [hl]
  obtain ⟨news, hnews⟩ : ∃ news, news = (EP).flat (d.drop j) := ⟨_, rfl⟩
  have hlen : news.length = (n - j) * 1 := by rw [hnews, El.flat_len, hdl]; rfl
  have s1 : Hid (news.length = (n - j) * 1) := hlen
  have s2 : Hid (∀ u ∈ news, u.oneCell' = true) := by rw [hnews]; exact El.flat_cell _ _
  have s3 : Hid (∀ t, t < news.length → (w.drew.cell? ⟨g, 0 + i * 1 + t, none⟩).isSome = true ∧ w.drew.frozen? ⟨g, 0 + i * 1 + t, none⟩ = false) := by
    intro t ht
    rw [Nat.zero_add]
    exact hd.there (by show _ < cap * 1; rw [hlen] at ht; have : i * 1 + (n - j) * 1 ≤ cap * 1 := (by rw [← Nat.add_mul]; exact Nat.mul_le_mul_right _ (by omega)); omega)
  have hcells : ∀ t u, news[t]? = some u → w.drew.cell? ⟨g, j + t, none⟩ = some u := by
    intro t u hu
    rw [hnews, El.flat_drop] at hu
    rw [List.getElem?_drop] at hu
    have hq := World.ownsRow.cells hd (g := g) rfl (j + t) u (by simpa [EP] using hu)
    rw [addr_add, Nat.zero_add] at hq
    exact hq
  obtain ⟨A, hAd, hsrc⟩ : ∃ A : Addr, (if cap = j then some (⟨g, 0, none⟩ : Addr) else some ⟨g, j, none⟩) = some A ∧ Hid (∀ t u, news[t]? = some u → w.drew.cell? (A.add t) = some u) := by
    by_cases hq : cap = j
    · refine ⟨⟨g, 0, none⟩, by simp [hq], fun t u hu => ?_⟩
      have h0 : news.length = 0 := by rw [hlen, show n - j = 0 by omega, Nat.zero_mul]
      rw [List.length_eq_zero_iff.1 h0] at hu
      simp at hu
    · refine ⟨⟨g, j, none⟩, by simp [hq], fun t u hu => ?_⟩
      rw [addr_add]
      exact hcells t u hu
  rw [← hnews] at hA hB hC
  obtain ⟨W1, hW1⟩ : ∃ W1, W1 = w.drew.setCells g (0 + i * 1) news := ⟨_, rfl⟩
  have hW1' : w.drew.setCells g (i * (EP).K) news = W1 := by rw [hW1, Nat.zero_add]; rfl
  rw [hW1'] at hA hB hC
  have hm0 : 0 < n - (i + (n - j)) := by omega
  have hcl : ∀ ty, (Builtin.clear_ #[58] ty #[.slice (some ⟨g, (i + (n - j)), none⟩) (n - (i + (n - j))) (cap - (i + (n - j)))]).run Tryd.prog W1 = .ok (.tuple #[]) (W1.setCells g ((i + (n - j)) * (EP).K) ((EP).flat (List.replicate (n - (i + (n - j))) none))) := by
    intro ty
    have := run_clearE (E := EP) none zeros_EP W1 ty g ((i + (n - j)) * (EP).K) (n - (i + (n - j))) (cap - (i + (n - j))) hm0 (fun t ht => hA.there (by
      have ht' : t < (n - (i + (n - j))) * 1 := ht
      show (i + (n - j)) * 1 + t < cap * 1
      have : (i + (n - j)) * 1 + (n - (i + (n - j))) * 1 ≤ cap * 1 := by rw [← Nat.add_mul]; exact Nat.mul_le_mul_right _ (by omega)
      omega))
    simpa [EP] using this
  have hW : Hid (W1 = w.drew.setCells g (0 + i * 1) news) := hW1
  obtain ⟨W2, hW2⟩ : ∃ W2, W2 = W1.setCells g ((i + (n - j)) * (EP).K) ((EP).flat (List.replicate (n - (i + (n - j))) none)) := ⟨_, rfl⟩
  rw [← hW2] at hB hC hcl
  have HB := hid2 hB
  have HC : Hid (w.grownBy W2 (some g)) := ⟨hC.os, hC.tape, hC.output, hC.size, hC.block⟩
  have hic : i ≤ cap := by omega
  have hjc : j ≤ cap := by omega
  have hne : ¬ ((i : Int) = (j : Int)) := by omega
  have hx1 : i + (n - j) ≤ n := by omega
  have hx2 : ¬ (cap = i + (n - j)) := by omega
  have hcb : (cap : Int) ≤ 9223372036854775807 := by unfold maxLen at hcm; omega
  clear hW1 hW1' hA hB hC h hd hcells hnews hlen hdl hW2 hcm hl
  go_enter Tryd.func25, Tryd.ntmps25
  go_wp2_with fail
  go_region_law (refine step_append_room rfl (.tmp 22) (.tmp 25) 58 rfl 62 i0 1 (EP).under hi0 hz1 g 0 i cap (by simp [Act.eval, Act.put]) A (n - j) (cap - j) news (by simp [Act.eval, Act.put]) s1.out hsrc.out s2.out (by omega) s3.out ?_; rw [← hW.out])
  go_wp2
  go_ret
  exact ⟨rfl, HB.out, HC.out⟩

set_option maxHeartbeats 4000000 in
set_option maxRecDepth 1000000 in
theorem deleteI {w : World} {base g n cap i j : Nat} {d : List (Int × Int)} (h : OwnE EI w base (.slice (some ⟨g, 0, none⟩) n cap) d) (hij : i < j) (hj : j ≤ n) :
    Calls Tryd.prog 28 #[.slice (some ⟨g, 0, none⟩) n cap, .int .i64 i, .int .i64 j] w fun e w' => e = .returned (.slice (some ⟨g, 0, none⟩) (i + (n - j)) cap) ∧ OwnE EI w' base (.slice (some ⟨g, 0, none⟩) (i + (n - j)) cap) (d.take i ++ d.drop j) ∧ w.grownBy w' (some g) := by
  obtain ⟨hl, hnc, hcm⟩ := h.capBound
  have hd : OwnE EI w.drew base (.slice (some ⟨g, 0, none⟩) n cap) d := h
  obtain ⟨hA, hB, hC⟩ := OwnE.deleted (w := w.drew) (0, 0) hd hij hj
  obtain ⟨i0, hi0, hz0, hz1, hz2⟩ := (EI).infoE
  have hdl : (d.drop j).length = n - j := by simp [hl]
  obtain ⟨news, hnews⟩ : ∃ news, news = (EI).flat (d.drop j) := ⟨_, rfl⟩
  have hlen : news.length = (n - j) * 2 := by rw [hnews, El.flat_len, hdl]; rfl
  have s1 : Hid (news.length = (n - j) * 2) := hlen
  have s2 : Hid (∀ u ∈ news, u.oneCell' = true) := by rw [hnews]; exact El.flat_cell _ _
  have s3 : Hid (∀ t, t < news.length → (w.drew.cell? ⟨g, 0 + i * 2 + t, none⟩).isSome = true ∧ w.drew.frozen? ⟨g, 0 + i * 2 + t, none⟩ = false) := by
    intro t ht
    rw [Nat.zero_add]
    exact hd.there (by show _ < cap * 2; rw [hlen] at ht; have : i * 2 + (n - j) * 2 ≤ cap * 2 := (by rw [← Nat.add_mul]; exact Nat.mul_le_mul_right _ (by omega)); omega)
  have hcells : ∀ t u, news[t]? = some u → w.drew.cell? ⟨g, j * 2 + t, none⟩ = some u := by
    intro t u hu
    rw [hnews, El.flat_drop] at hu
    rw [List.getElem?_drop] at hu
    have hq := World.ownsRow.cells hd (g := g) rfl (j * 2 + t) u (by simpa [EI] using hu)
    rw [addr_add, Nat.zero_add] at hq
    exact hq
  obtain ⟨A, hAd, hsrc⟩ : ∃ A : Addr, (if cap = j then some (⟨g, 0, none⟩ : Addr) else some ⟨g, j * 2, none⟩) = some A ∧ Hid (∀ t u, news[t]? = some u → w.drew.cell? (A.add t) = some u) := by
    by_cases hq : cap = j
    · refine ⟨⟨g, 0, none⟩, by simp [hq], fun t u hu => ?_⟩
      have h0 : news.length = 0 := by rw [hlen, show n - j = 0 by omega, Nat.zero_mul]
      rw [List.length_eq_zero_iff.1 h0] at hu
      simp at hu
    · refine ⟨⟨g, j * 2, none⟩, by simp [hq], fun t u hu => ?_⟩
      rw [addr_add]
      exact hcells t u hu
  rw [← hnews] at hA hB hC
  obtain ⟨W1, hW1⟩ : ∃ W1, W1 = w.drew.setCells g (0 + i * 2) news := ⟨_, rfl⟩
  have hW1' : w.drew.setCells g (i * (EI).K) news = W1 := by rw [hW1, Nat.zero_add]; rfl
  rw [hW1'] at hA hB hC
  have hm0 : 0 < n - (i + (n - j)) := by omega
  have hcl : ∀ ty, (Builtin.clear_ #[22] ty #[.slice (some ⟨g, (i + (n - j)) * 2, none⟩) (n - (i + (n - j))) (cap - (i + (n - j)))]).run Tryd.prog W1 = .ok (.tuple #[]) (W1.setCells g ((i + (n - j)) * (EI).K) ((EI).flat (List.replicate (n - (i + (n - j))) (0, 0)))) := by
    intro ty
    have := run_clearE (E := EI) (0, 0) zeros_EI W1 ty g ((i + (n - j)) * (EI).K) (n - (i + (n - j))) (cap - (i + (n - j))) hm0 (fun t ht => hA.there (by
      have ht' : t < (n - (i + (n - j))) * 2 := ht
      show (i + (n - j)) * 2 + t < cap * 2
      have : (i + (n - j)) * 2 + (n - (i + (n - j))) * 2 ≤ cap * 2 := by rw [← Nat.add_mul]; exact Nat.mul_le_mul_right _ (by omega)
      omega))
    exact this
  have hW : Hid (W1 = w.drew.setCells g (0 + i * 2) news) := hW1
  obtain ⟨W2, hW2⟩ : ∃ W2, W2 = W1.setCells g ((i + (n - j)) * (EI).K) ((EI).flat (List.replicate (n - (i + (n - j))) (0, 0))) := ⟨_, rfl⟩
  rw [← hW2] at hB hC hcl
  have HB := hid2 hB
  have HC : Hid (w.grownBy W2 (some g)) := ⟨hC.os, hC.tape, hC.output, hC.size, hC.block⟩
  have hic : i ≤ cap := by omega
  have hjc : j ≤ cap := by omega
  have hne : ¬ ((i : Int) = (j : Int)) := by omega
  have hx1 : i + (n - j) ≤ n := by omega
  have hx2 : ¬ (cap = i + (n - j)) := by omega
  have hcb : (cap : Int) ≤ 9223372036854775807 := by unfold maxLen at hcm; omega
  clear hW1 hW1' hA hB hC h hd hcells hnews hlen hdl hW2 hcm hl
  go_enter Tryd.func28, Tryd.ntmps28
  go_wp2_with fail
  go_region_law (refine step_append_room rfl (.tmp 22) (.tmp 25) 22 rfl 30 i0 2 (EI).under hi0 hz1 g 0 i cap (by simp [Act.eval, Act.put]) A (n - j) (cap - j) news (by simp [Act.eval, Act.put]) s1.out hsrc.out s2.out (by omega) s3.out ?_; rw [← hW.out])
  go_wp2
  go_ret
  exact ⟨rfl, HB.out, HC.out⟩
#print axioms deleteP
#print axioms deleteI
end Go.Proofs.YtdpfijhkbhmkgaaDoor
