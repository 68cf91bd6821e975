/-
  The document's numbers sorted: Ints of ricksteadref2.
-/
import Derived.Test.YtlaeaeciomkababDoorRefSortW
import Derived.Test.YtlaeaeciomkababDoorItZ
import Derived.Test.YtlaeaeciomkababDoorHide
namespace Go.Proofs.YtlaeaeciomkababDoor
open Go.RowKit Go.Sort Go.Proofs

set_option maxHeartbeats 8000000 in
set_option maxRecDepth 100000 in
theorem ints_any {w : World} {blk off n cap : Nat} {ys : List Int} (hr : RdE EZ w blk off ys) (hn : ys.length = n) (h0 : 0 < n) (h60 : n ≤ 60) :
    Calls Tryd.prog 33 #[.slice (some ⟨blk, off, none⟩) n cap] w fun e w' => ∃ u, e = .returned u ∧ ∃ zs, OwnE EZ w' w.heap.size u zs ∧ SortedZ ys zs ∧ Below w.heap.size w w' := by
  have HR := hidp hr
  have HN := hidp hn
  clear hr hn
  go_enter Tryd.func33, Tryd.ntmps33
  go_wp2
  go_loopg [3, 4] n (fun gg v3 v4 wr => ∃ i : Nat, v4 = .int .i64 i ∧ i + gg = n ∧ Hid (OwnI wr w.heap.size v3 (itm0 (ys.take i))) ∧ Hid (Below w.heap.size w wr))
  case atStart => exact ⟨0, rfl, by omega, OwnI.nil w _, Below.refl _ _⟩
  case round =>
    obtain ⟨i, rfl, hg, HO, HB⟩ := hrel
    by_cases hin : i < n
    · have hiz : (i : Int) < (n : Int) := by omega
      obtain ⟨c, hc⟩ : ∃ c, ys[i]? = some c := ⟨_, List.getElem?_eq_getElem (by rw [HN.out]; exact hin)⟩
      have ca := (HR.out.below HB.out HR.out.1).int hc
      have HC := hidp hc
      have HX := hidp (box_two wr c 0)
      have HOA := hidp (HO.out.alloc (.cells #[.int .i64 c, .int .i64 0] 99))
      have HSZ : Hid ((itm0 (ys.take i)).length ≤ 1000000) := by show _ ≤ _; rw [itm0_len]; exact Nat.le_trans (List.length_take_le _ _) (by omega)
      have HBS : Hid (w.heap.size ≤ (wr.alloc (.cells #[.int .i64 c, .int .i64 0] 99)).heap.size) := by have := HB.out.size; show _ ≤ _; simp; omega
      clear hc
      go_wp2_with (at_builtin; refine wpList_append_item rfl (.tmp 13) (.tmp 19) rfl w.heap.size _ (itm0 (ys.take i)) (c, 0) ⟨wr.heap.size, 0, none⟩ 1 rfl HOA.out rfl HX.out.1 HX.out.2 HSZ.out HBS.out ?_; intro v1 w1 a1 a2 a3; have hb1 := below_of_grown HOA.out a2 (Nat.le_refl _) HBS.out; have HB1 := hidp ((HB.out.alloc HB.out.size _).trans hb1); have HO1 := hidp a1; clear a1 a2 a3 hb1)
      go_roundg (n - (i + 1))
      case measure => omega
      case rel => exact ⟨i + 1, by go_num, by omega, by show OwnI _ _ _ _; rw [itm0_succ HC.out]; exact HO1.out, HB1⟩
    · obtain rfl : i = n := by omega
      have hiz : ¬ ((i : Int) < (i : Int)) := by omega
      have ht : ys.take i = ys := List.take_of_length_le (by rw [HN.out]; exact Nat.le_refl _)
      rw [ht] at HO
      have CS := hidp (refSort_any u3 (itm0 ys).toArray wr HO.out.sl (by simp [itm0_len, HN.out]; exact h60))
      clear ht
      go_wp2_with fail
      refine CS.out.mono ?_
      rintro e w2 ⟨u, rfl, os, o2, hs2, hb2⟩
      have HS := hidp (sortedZ hs2)
      have hosl : os.length = i := by
        have := hs2.size
        simpa [itm0_len, HN.out] using this
      obtain ⟨g, cp, rfl, _, hgl, hcp, hcells⟩ := own_some hosl h0 o2
      have HCL := hidp hcells
      have HOL := hidp hosl
      have HB2 := hidp (HB.out.trans (hb2.mono HB.out.size))
      clear hs2 hosl hcells o2 hb2 CS HO HB
      go_wp2
      go_loopg [5, 6] i (fun g2 v5 v6 wr2 => ∃ k : Nat, v6 = .int .i64 k ∧ k + g2 = i ∧ Hid (OwnE EZ wr2 w2.heap.size v5 (fsts (os.take k))) ∧ Hid (Below w2.heap.size w2 wr2))
      case atStart => exact ⟨0, rfl, by omega, OwnE.nil EZ w2 _, Below.refl _ _⟩
      case round =>
        obtain ⟨k, rfl, hkg, HO, HB⟩ := hrel
        by_cases hki : k < i
        · have hkz : (k : Int) < (i : Int) := by omega
          obtain ⟨⟨x0, x1⟩, hx⟩ : ∃ x, os[k]? = some x := ⟨_, List.getElem?_eq_getElem (by rw [HOL.out]; exact hki)⟩
          have cx : wr.cell? ⟨g, k * 2, none⟩ = some (.int .i64 x0) := by
            obtain ⟨hk, hv⟩ := List.getElem?_eq_some_iff.1 hx
            have := (flatL_get os k hk).1
            rw [hv] at this
            exact (HB.out.cell (p := ⟨g, k * 2, none⟩) hgl).trans (HCL.out _ _ this)
          have HX := hidp hx
          have HNEW := hidp (box_one wr x0)
          have HOA := hidp (HO.out.alloc (.cells #[.int .i64 x0] 3))
          have HSZ : Hid ((fsts (os.take k)).length ≤ 100000) := by show _ ≤ _; rw [fsts_len]; exact Nat.le_trans (List.length_take_le _ _) (by omega)
          have HBS : Hid (w2.heap.size ≤ (wr.alloc (.cells #[.int .i64 x0] 3)).heap.size) := by have := HB.out.size; show _ ≤ _; simp; omega
          clear hx
          go_wp2_with (at_builtin; refine wpList_appendE EZ rfl (.tmp 29) (.tmp 35) rfl w2.heap.size _ (fsts (os.take k)) x0 ⟨wr.heap.size, 0, none⟩ 1 rfl HOA.out rfl HNEW.out HSZ.out HBS.out ?_; intro v1 w3 a1 a2 a3; have hb1 := below_ownE HOA.out a2 (Nat.le_refl _) HBS.out; have HB1 := hidp ((HB.out.alloc HB.out.size _).trans hb1); have HO1 := hidp a1; clear a1 a2 a3 hb1)
          go_roundg (i - (k + 1))
          case measure => omega
          case rel => exact ⟨k + 1, by go_num, by omega, by show OwnE _ _ _ _ _; rw [fst_succ HX.out]; exact HO1.out, HB1⟩
        · obtain rfl : k = i := by omega
          have hkz : ¬ ((k : Int) < (k : Int)) := by omega
          have ht : os.take k = os := List.take_of_length_le (by rw [HOL.out]; exact Nat.le_refl _)
          rw [ht] at HO
          clear ht
          go_wp2
          go_ret
          exact ⟨_, rfl, fsts os, HO.out.weak HB2.out.size, HS.out, HB2.out.trans (HB.out.mono HB2.out.size)⟩
#print axioms ints_any
end Go.Proofs.YtlaeaeciomkababDoor
