/-
  slices.Delete at groups of symbols. (Written by wip/gen/sodel.py.)
-/
import Derived.Test.YtlaeaeciomkababDoorElU
namespace Go.Proofs.YtlaeaeciomkababDoor
open Go.RowKit Go.Proofs

set_option maxHeartbeats 4000000 in
set_option maxRecDepth 1000000 in
theorem deleteU {w : World} {base g n cap i j : Nat} {d : List (Gp)} (h : OwnE EU w base (.slice (some ⟨g, 0, none⟩) n cap) d) (hij : i < j) (hj : j ≤ n) :
    Calls Tryd.prog 66 #[.slice (some ⟨g, 0, none⟩) n cap, .int .i64 i, .int .i64 j] w fun e w' => e = .returned (.slice (some ⟨g, 0, none⟩) (i + (n - j)) cap) ∧ OwnE EU w' base (.slice (some ⟨g, 0, none⟩) (i + (n - j)) cap) (d.take i ++ d.drop j) ∧ w.grownBy w' (some g) := by
  obtain ⟨hl, hnc, hcm⟩ := h.capBound
  have hd : OwnE EU w.drew base (.slice (some ⟨g, 0, none⟩) n cap) d := h
  obtain ⟨hA, hB, hC⟩ := OwnE.deleted (w := w.drew) (0, 0, none, 0, 0) hd hij hj
  obtain ⟨i0, hi0, hz0, hz1, hz2⟩ := (EU).infoE
  have hdl : (d.drop j).length = n - j := by simp [hl]
  obtain ⟨news, hnews⟩ : ∃ news, news = (EU).flat (d.drop j) := ⟨_, rfl⟩
  have hlen : news.length = (n - j) * 3 := by rw [hnews, El.flat_len, hdl]; rfl
  have s1 : Hid (news.length = (n - j) * 3) := hlen
  have s2 : Hid (∀ u ∈ news, u.oneCell' = true) := by rw [hnews]; exact El.flat_cell _ _
  have s3 : Hid (∀ t, t < news.length → (w.drew.cell? ⟨g, 0 + i * 3 + t, none⟩).isSome = true ∧ w.drew.frozen? ⟨g, 0 + i * 3 + t, none⟩ = false) := by
    intro t ht
    rw [Nat.zero_add]
    exact hd.there (by show _ < cap * 3; rw [hlen] at ht; have : i * 3 + (n - j) * 3 ≤ cap * 3 := (by rw [← Nat.add_mul]; exact Nat.mul_le_mul_right _ (by omega)); omega)
  have hcells : ∀ t u, news[t]? = some u → w.drew.cell? ⟨g, j * 3 + t, none⟩ = some u := by
    intro t u hu
    rw [hnews, El.flat_drop] at hu
    rw [List.getElem?_drop] at hu
    have hq := World.ownsRow.cells hd (g := g) rfl (j * 3 + t) u (by simpa [EU] using hu)
    rw [addr_add, Nat.zero_add] at hq
    exact hq
  obtain ⟨A, hAd, hsrc⟩ : ∃ A : Addr, (if cap = j then some (⟨g, 0, none⟩ : Addr) else some ⟨g, j * 3, none⟩) = some A ∧ Hid (∀ t u, news[t]? = some u → w.drew.cell? (A.add t) = some u) := by
    by_cases hq : cap = j
    · refine ⟨⟨g, 0, none⟩, by simp [hq], fun t u hu => ?_⟩
      have h0 : news.length = 0 := by rw [hlen, show n - j = 0 by omega, Nat.zero_mul]
      rw [List.length_eq_zero_iff.1 h0] at hu
      simp at hu
    · refine ⟨⟨g, j * 3, none⟩, by simp [hq], fun t u hu => ?_⟩
      rw [addr_add]
      exact hcells t u hu
  rw [← hnews] at hA hB hC
  obtain ⟨W1, hW1⟩ : ∃ W1, W1 = w.drew.setCells g (0 + i * 3) news := ⟨_, rfl⟩
  have hW1' : w.drew.setCells g (i * (EU).K) news = W1 := by rw [hW1, Nat.zero_add]; rfl
  rw [hW1'] at hA hB hC
  have hm0 : 0 < n - (i + (n - j)) := by omega
  have hcl : ∀ ty, (Builtin.clear_ #[111] ty #[.slice (some ⟨g, (i + (n - j)) * 3, none⟩) (n - (i + (n - j))) (cap - (i + (n - j)))]).run Tryd.prog W1 = .ok (.tuple #[]) (W1.setCells g ((i + (n - j)) * (EU).K) ((EU).flat (List.replicate (n - (i + (n - j))) (0, 0, none, 0, 0)))) := by
    intro ty
    have := run_clearE (E := EU) (0, 0, none, 0, 0) zeros_EU W1 ty g ((i + (n - j)) * (EU).K) (n - (i + (n - j))) (cap - (i + (n - j))) hm0 (fun t ht => hA.there (by
      have ht' : t < (n - (i + (n - j))) * 3 := ht
      show (i + (n - j)) * 3 + t < cap * 3
      have : (i + (n - j)) * 3 + (n - (i + (n - j))) * 3 ≤ cap * 3 := by rw [← Nat.add_mul]; exact Nat.mul_le_mul_right _ (by omega)
      omega))
    exact this
  have hW : Hid (W1 = w.drew.setCells g (0 + i * 3) news) := hW1
  obtain ⟨W2, hW2⟩ : ∃ W2, W2 = W1.setCells g ((i + (n - j)) * (EU).K) ((EU).flat (List.replicate (n - (i + (n - j))) (0, 0, none, 0, 0))) := ⟨_, rfl⟩
  rw [← hW2] at hB hC hcl
  have HB := hid2 hB
  have HC : Hid (w.grownBy W2 (some g)) := ⟨hC.os, hC.tape, hC.output, hC.size, hC.block⟩
  have hic : i ≤ cap := by omega
  have hjc : j ≤ cap := by omega
  have hne : ¬ ((i : Int) = (j : Int)) := by omega
  have hx1 : i + (n - j) ≤ n := by omega
  have hx2 : ¬ (cap = i + (n - j)) := by omega
  have hcb : (cap : Int) ≤ 9223372036854775807 := by unfold maxLen at hcm; omega
  clear hW1 hW1' hA hB hC h hd hcells hnews hlen hdl hW2 hcm hl
  go_enter Tryd.func66, Tryd.ntmps66
  go_wp2_with fail
  go_region_law (refine step_append_room rfl (.tmp 22) (.tmp 25) 111 rfl 74 i0 3 (EU).under hi0 hz1 g 0 i cap (by simp [Act.eval, Act.put]) A (n - j) (cap - j) news (by simp [Act.eval, Act.put]) s1.out hsrc.out s2.out (by omega) s3.out ?_; rw [← hW.out])
  go_wp2
  go_ret
  exact ⟨rfl, HB.out, HC.out⟩
#print axioms deleteU
end Go.Proofs.YtlaeaeciomkababDoor
