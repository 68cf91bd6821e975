/-
  slices.Delete at lists of numbers and at numbers that wait for a run. (Written by wip/gen/sodel.py.)
-/
import Derived.Test.YtlaeaeciomkababDoorElV
namespace Go.Proofs.YtlaeaeciomkababDoor
open Go.RowKit Go.Proofs

set_option maxHeartbeats 4000000 in
set_option maxRecDepth 1000000 in
theorem deleteV {w : World} {base g n cap i j : Nat} {d : List (Sv)} (h : OwnE EV w base (.slice (some ⟨g, 0, none⟩) n cap) d) (hij : i < j) (hj : j ≤ n) :
    Calls Tryd.prog 97 #[.slice (some ⟨g, 0, none⟩) n cap, .int .i64 i, .int .i64 j] w fun e w' => e = .returned (.slice (some ⟨g, 0, none⟩) (i + (n - j)) cap) ∧ OwnE EV w' base (.slice (some ⟨g, 0, none⟩) (i + (n - j)) cap) (d.take i ++ d.drop j) ∧ w.grownBy w' (some g) := by
  obtain ⟨hl, hnc, hcm⟩ := h.capBound
  have hd : OwnE EV w.drew base (.slice (some ⟨g, 0, none⟩) n cap) d := h
  obtain ⟨hA, hB, hC⟩ := OwnE.deleted (w := w.drew) (none, 0, 0) hd hij hj
  obtain ⟨i0, hi0, hz0, hz1, hz2⟩ := (EV).infoE
  have hdl : (d.drop j).length = n - j := by simp [hl]
  obtain ⟨news, hnews⟩ : ∃ news, news = (EV).flat (d.drop j) := ⟨_, rfl⟩
  have hlen : news.length = (n - j) * 1 := by rw [hnews, El.flat_len, hdl]; rfl
  have s1 : Hid (news.length = (n - j) * 1) := hlen
  have s2 : Hid (∀ u ∈ news, u.oneCell' = true) := by rw [hnews]; exact El.flat_cell _ _
  have s3 : Hid (∀ t, t < news.length → (w.drew.cell? ⟨g, 0 + i * 1 + t, none⟩).isSome = true ∧ w.drew.frozen? ⟨g, 0 + i * 1 + t, none⟩ = false) := by
    intro t ht
    rw [Nat.zero_add]
    exact hd.there (by show _ < cap * 1; rw [hlen] at ht; have : i * 1 + (n - j) * 1 ≤ cap * 1 := (by rw [← Nat.add_mul]; exact Nat.mul_le_mul_right _ (by omega)); omega)
  have hcells : ∀ t u, news[t]? = some u → w.drew.cell? ⟨g, j + t, none⟩ = some u := by
    intro t u hu
    rw [hnews, El.flat_drop] at hu
    rw [List.getElem?_drop] at hu
    have hq := World.ownsRow.cells hd (g := g) rfl (j + t) u (by simpa [EV] using hu)
    rw [addr_add, Nat.zero_add] at hq
    exact hq
  obtain ⟨A, hAd, hsrc⟩ : ∃ A : Addr, (if cap = j then some (⟨g, 0, none⟩ : Addr) else some ⟨g, j, none⟩) = some A ∧ Hid (∀ t u, news[t]? = some u → w.drew.cell? (A.add t) = some u) := by
    by_cases hq : cap = j
    · refine ⟨⟨g, 0, none⟩, by simp [hq], fun t u hu => ?_⟩
      have h0 : news.length = 0 := by rw [hlen, show n - j = 0 by omega, Nat.zero_mul]
      rw [List.length_eq_zero_iff.1 h0] at hu
      simp at hu
    · refine ⟨⟨g, j, none⟩, by simp [hq], fun t u hu => ?_⟩
      rw [addr_add]
      exact hcells t u hu
  rw [← hnews] at hA hB hC
  obtain ⟨W1, hW1⟩ : ∃ W1, W1 = w.drew.setCells g (0 + i * 1) news := ⟨_, rfl⟩
  have hW1' : w.drew.setCells g (i * (EV).K) news = W1 := by rw [hW1, Nat.zero_add]; rfl
  rw [hW1'] at hA hB hC
  have hm0 : 0 < n - (i + (n - j)) := by omega
  have hcl : ∀ ty, (Builtin.clear_ #[37] ty #[.slice (some ⟨g, (i + (n - j)), none⟩) (n - (i + (n - j))) (cap - (i + (n - j)))]).run Tryd.prog W1 = .ok (.tuple #[]) (W1.setCells g ((i + (n - j)) * (EV).K) ((EV).flat (List.replicate (n - (i + (n - j))) (none, 0, 0)))) := by
    intro ty
    have := run_clearE (E := EV) (none, 0, 0) zeros_EV W1 ty g ((i + (n - j)) * (EV).K) (n - (i + (n - j))) (cap - (i + (n - j))) hm0 (fun t ht => hA.there (by
      have ht' : t < (n - (i + (n - j))) * 1 := ht
      show (i + (n - j)) * 1 + t < cap * 1
      have : (i + (n - j)) * 1 + (n - (i + (n - j))) * 1 ≤ cap * 1 := by rw [← Nat.add_mul]; exact Nat.mul_le_mul_right _ (by omega)
      omega))
    simpa [EV] using this
  have hW : Hid (W1 = w.drew.setCells g (0 + i * 1) news) := hW1
  obtain ⟨W2, hW2⟩ : ∃ W2, W2 = W1.setCells g ((i + (n - j)) * (EV).K) ((EV).flat (List.replicate (n - (i + (n - j))) (none, 0, 0))) := ⟨_, rfl⟩
  rw [← hW2] at hB hC hcl
  have HB := hid2 hB
  have HC : Hid (w.grownBy W2 (some g)) := ⟨hC.os, hC.tape, hC.output, hC.size, hC.block⟩
  have hic : i ≤ cap := by omega
  have hjc : j ≤ cap := by omega
  have hne : ¬ ((i : Int) = (j : Int)) := by omega
  have hx1 : i + (n - j) ≤ n := by omega
  have hx2 : ¬ (cap = i + (n - j)) := by omega
  have hcb : (cap : Int) ≤ 9223372036854775807 := by unfold maxLen at hcm; omega
  clear hW1 hW1' hA hB hC h hd hcells hnews hlen hdl hW2 hcm hl
  go_enter Tryd.func97, Tryd.ntmps97
  go_wp2_with fail
  go_region_law (refine step_append_room rfl (.tmp 22) (.tmp 25) 37 rfl 22 i0 1 (EV).under hi0 hz1 g 0 i cap (by simp [Act.eval, Act.put]) A (n - j) (cap - j) news (by simp [Act.eval, Act.put]) s1.out hsrc.out s2.out (by omega) s3.out ?_; rw [← hW.out])
  go_wp2
  go_ret
  exact ⟨rfl, HB.out, HC.out⟩

set_option maxHeartbeats 4000000 in
set_option maxRecDepth 1000000 in
theorem deleteW {w : World} {base g n cap i j : Nat} {d : List (Int × Int)} (h : OwnE EW w base (.slice (some ⟨g, 0, none⟩) n cap) d) (hij : i < j) (hj : j ≤ n) :
    Calls Tryd.prog 74 #[.slice (some ⟨g, 0, none⟩) n cap, .int .i64 i, .int .i64 j] w fun e w' => e = .returned (.slice (some ⟨g, 0, none⟩) (i + (n - j)) cap) ∧ OwnE EW w' base (.slice (some ⟨g, 0, none⟩) (i + (n - j)) cap) (d.take i ++ d.drop j) ∧ w.grownBy w' (some g) := by
  obtain ⟨hl, hnc, hcm⟩ := h.capBound
  have hd : OwnE EW w.drew base (.slice (some ⟨g, 0, none⟩) n cap) d := h
  obtain ⟨hA, hB, hC⟩ := OwnE.deleted (w := w.drew) (0, 0) hd hij hj
  obtain ⟨i0, hi0, hz0, hz1, hz2⟩ := (EW).infoE
  have hdl : (d.drop j).length = n - j := by simp [hl]
  obtain ⟨news, hnews⟩ : ∃ news, news = (EW).flat (d.drop j) := ⟨_, rfl⟩
  have hlen : news.length = (n - j) * 2 := by rw [hnews, El.flat_len, hdl]; rfl
  have s1 : Hid (news.length = (n - j) * 2) := hlen
  have s2 : Hid (∀ u ∈ news, u.oneCell' = true) := by rw [hnews]; exact El.flat_cell _ _
  have s3 : Hid (∀ t, t < news.length → (w.drew.cell? ⟨g, 0 + i * 2 + t, none⟩).isSome = true ∧ w.drew.frozen? ⟨g, 0 + i * 2 + t, none⟩ = false) := by
    intro t ht
    rw [Nat.zero_add]
    exact hd.there (by show _ < cap * 2; rw [hlen] at ht; have : i * 2 + (n - j) * 2 ≤ cap * 2 := (by rw [← Nat.add_mul]; exact Nat.mul_le_mul_right _ (by omega)); omega)
  have hcells : ∀ t u, news[t]? = some u → w.drew.cell? ⟨g, j * 2 + t, none⟩ = some u := by
    intro t u hu
    rw [hnews, El.flat_drop] at hu
    rw [List.getElem?_drop] at hu
    have hq := World.ownsRow.cells hd (g := g) rfl (j * 2 + t) u (by simpa [EW] using hu)
    rw [addr_add, Nat.zero_add] at hq
    exact hq
  obtain ⟨A, hAd, hsrc⟩ : ∃ A : Addr, (if cap = j then some (⟨g, 0, none⟩ : Addr) else some ⟨g, j * 2, none⟩) = some A ∧ Hid (∀ t u, news[t]? = some u → w.drew.cell? (A.add t) = some u) := by
    by_cases hq : cap = j
    · refine ⟨⟨g, 0, none⟩, by simp [hq], fun t u hu => ?_⟩
      have h0 : news.length = 0 := by rw [hlen, show n - j = 0 by omega, Nat.zero_mul]
      rw [List.length_eq_zero_iff.1 h0] at hu
      simp at hu
    · refine ⟨⟨g, j * 2, none⟩, by simp [hq], fun t u hu => ?_⟩
      rw [addr_add]
      exact hcells t u hu
  rw [← hnews] at hA hB hC
  obtain ⟨W1, hW1⟩ : ∃ W1, W1 = w.drew.setCells g (0 + i * 2) news := ⟨_, rfl⟩
  have hW1' : w.drew.setCells g (i * (EW).K) news = W1 := by rw [hW1, Nat.zero_add]; rfl
  rw [hW1'] at hA hB hC
  have hm0 : 0 < n - (i + (n - j)) := by omega
  have hcl : ∀ ty, (Builtin.clear_ #[120] ty #[.slice (some ⟨g, (i + (n - j)) * 2, none⟩) (n - (i + (n - j))) (cap - (i + (n - j)))]).run Tryd.prog W1 = .ok (.tuple #[]) (W1.setCells g ((i + (n - j)) * (EW).K) ((EW).flat (List.replicate (n - (i + (n - j))) (0, 0)))) := by
    intro ty
    have := run_clearE (E := EW) (0, 0) zeros_EW W1 ty g ((i + (n - j)) * (EW).K) (n - (i + (n - j))) (cap - (i + (n - j))) hm0 (fun t ht => hA.there (by
      have ht' : t < (n - (i + (n - j))) * 2 := ht
      show (i + (n - j)) * 2 + t < cap * 2
      have : (i + (n - j)) * 2 + (n - (i + (n - j))) * 2 ≤ cap * 2 := by rw [← Nat.add_mul]; exact Nat.mul_le_mul_right _ (by omega)
      omega))
    exact this
  have hW : Hid (W1 = w.drew.setCells g (0 + i * 2) news) := hW1
  obtain ⟨W2, hW2⟩ : ∃ W2, W2 = W1.setCells g ((i + (n - j)) * (EW).K) ((EW).flat (List.replicate (n - (i + (n - j))) (0, 0))) := ⟨_, rfl⟩
  rw [← hW2] at hB hC hcl
  have HB := hid2 hB
  have HC : Hid (w.grownBy W2 (some g)) := ⟨hC.os, hC.tape, hC.output, hC.size, hC.block⟩
  have hic : i ≤ cap := by omega
  have hjc : j ≤ cap := by omega
  have hne : ¬ ((i : Int) = (j : Int)) := by omega
  have hx1 : i + (n - j) ≤ n := by omega
  have hx2 : ¬ (cap = i + (n - j)) := by omega
  have hcb : (cap : Int) ≤ 9223372036854775807 := by unfold maxLen at hcm; omega
  clear hW1 hW1' hA hB hC h hd hcells hnews hlen hdl hW2 hcm hl
  go_enter Tryd.func74, Tryd.ntmps74
  go_wp2_with fail
  go_region_law (refine step_append_room rfl (.tmp 22) (.tmp 25) 120 rfl 88 i0 2 (EW).under hi0 hz1 g 0 i cap (by simp [Act.eval, Act.put]) A (n - j) (cap - j) news (by simp [Act.eval, Act.put]) s1.out hsrc.out s2.out (by omega) s3.out ?_; rw [← hW.out])
  go_wp2
  go_ret
  exact ⟨rfl, HB.out, HC.out⟩
#print axioms deleteV
#print axioms deleteW
end Go.Proofs.YtlaeaeciomkababDoor
