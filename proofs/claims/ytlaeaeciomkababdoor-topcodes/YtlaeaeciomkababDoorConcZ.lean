/-
  slices.Grow of nothing, slices.Concat, at whole numbers.
-/
import Derived.Test.YtlaeaeciomkababDoorAppE
import Derived.Test.YtlaeaeciomkababDoorElV
import Derived.Test.YtlaeaeciomkababDoorOwn
import Derived.Lib.AppendZeros
namespace Go.Proofs.YtlaeaeciomkababDoor
open Go.RowKit Go.Proofs

theorem cat_take (ls : List (List Int)) {i : Nat} {l : List Int} (h : ls[i]? = some l) : (ls.take (i + 1)).flatten = (ls.take i).flatten ++ l := by
  obtain ⟨hi, e⟩ := List.getElem?_eq_some_iff.1 h
  rw [List.take_succ_eq_append_getElem hi, List.flatten_append, e]
  simp
theorem cat_le (ls : List (List Int)) (i : Nat) : (ls.take i).flatten.length ≤ ls.flatten.length := by
  have : ls.flatten = (ls.take i).flatten ++ (ls.drop i).flatten := by rw [← List.flatten_append, List.take_append_drop]
  rw [this, List.length_append]
  omega
theorem grown_own {w : World} {G : Nat} {cs : Array Value} (hs : cs.size = G) (hG : G ≤ maxLen) : OwnE EZ (w.drew.alloc (.cells cs 3)) w.heap.size (.slice (some ⟨w.heap.size, 0, none⟩) 0 G) [] := by
  have := World.ownsRow_made (w := w.drew) (base := w.heap.size) (e := 3) (size := 1) cs G (Nat.le_refl _) hG (by rw [hs, Nat.mul_one])
  exact this
set_option maxHeartbeats 4000000 in
theorem grow_z (n : Nat) (h0 : 0 < n) (hn : n ≤ 100000) (w : World) : Calls Tryd.prog 68 #[.slice none 0 0, .int .i64 n] w fun e w' => ∃ v, e = .returned v ∧ OwnE EZ w' w.heap.size v [] ∧ Below w.heap.size w w' := by
  obtain ⟨i0, hi, hz0, hz1, hz2⟩ := EZ.infoE
  have hz2' : i0.bytes = 8 := hz2
  have hz1' : i0.size = 1 := hz1
  have hr : ∀ ty, (Builtin.append_ #[22, 3] ty #[.slice none 0 0, .int .i64 n]).run Tryd.prog w = _ := fun ty => Lib.run_append_nil_zeros w 22 3 ty 3 i0 _ .i64 .i64 EZ.under Tryd.underlying3 hi hz0 n h0 (by omega) (by omega) (by rw [hz2']; omega)
  have hG1 := grownCap_ge w n 0 3
  have hG2 := grownCap_le_maxLen w n 0 3 (by unfold maxLen; omega)
  generalize grownCap w n 0 3 = G at hr hG1 hG2
  have hcs : (Builtin.zeroCells EZ.zero.cells n ++ Builtin.zeroCells EZ.zero.cells (G - n)).size = G := by
    have : EZ.zero.cells = #[.int .i64 0] := rfl
    rw [this]
    simp [Builtin.zeroCells]
    omega
  generalize Builtin.zeroCells EZ.zero.cells n ++ Builtin.zeroCells EZ.zero.cells (G - n) = cs at hr hcs
  have HO := hidp (grown_own (w := w) hcs hG2)
  have HB : Hid (Below w.heap.size w (w.drew.alloc (.cells cs 3))) := (below_drewN (Below.refl _ w) 1).alloc (Nat.le_refl _) _
  have hnz : ¬ (n : Int) < 0 := by omega
  have hnp : (0 : Int) < (n : Int) := by omega
  have hGm : (G : Int) ≤ 9223372036854775807 := by unfold maxLen at hG2; omega
  clear hi hz0 hz1 hz2 hz2' hz1' hcs hG2
  go_enter Tryd.func68, Tryd.ntmps68
  go_wp2_with (at_builtin; refine Lib.wpList_append_run _ rfl _ _ _ _ rfl _ _ rfl rfl _ _ (hr _) ?_)
  go_ret
  exact ⟨_, rfl, HO.out, HB.out⟩
set_option maxHeartbeats 4000000 in
theorem concat_z {v : Value} {ls : List (List Int)} {w : World} (h : LLAt w v ls) (h0 : 0 < ls.flatten.length) (hn : ls.flatten.length ≤ 1000) (hls : ls.length ≤ 1000) :
    Calls Tryd.prog 44 #[v] w fun e w' => ∃ v', e = .returned v' ∧ OwnE EZ w' w.heap.size v' ls.flatten ∧ Below w.heap.size w w' := by
  obtain ⟨p, cap, rfl⟩ := h.form
  obtain ⟨m, hm⟩ : ∃ m, ls.length = m := ⟨_, rfl⟩
  rw [hm] at h hls ⊢
  have HX := hidp h
  have HM := hidp hm
  have HN := hidp hn
  have H0 := hidp h0
  clear h hm hn h0
  go_enter Tryd.func44, Tryd.ntmps44
  go_wp2
  go_loopg [3, 11] m (fun g vs vi wr => ∃ (i s : Nat), vs = .int .i64 s ∧ vi = .int .i64 i ∧ i + g = m ∧ w = wr ∧ s ≤ 1000 ∧ Hid (s = (ls.take i).flatten.length))
  case atStart => exact ⟨0, 0, rfl, rfl, by omega, rfl, by omega, (show Hid _ from rfl)⟩
  case round =>
    obtain ⟨i, s, rfl, rfl, hg, hw, hs, HS⟩ := hrel
    subst hw
    by_cases hlt : i < m
    · have hlz : (i : Int) < (m : Int) := by omega
      obtain ⟨l, hl⟩ : ∃ l, ls[i]? = some l := ⟨_, List.getElem?_eq_getElem (by have := HM.out; omega)⟩
      obtain ⟨blk, off, q, c, rfl, _, c0, _⟩ := HX.out.row hl
      have ht := cat_take ls hl
      have hle := cat_le ls (i + 1)
      rw [ht, List.length_append] at hle
      have HT := hidp ht
      have h1 := HS.out
      have h2 := HN.out
      have hsl : s + l.length ≤ 1000 := by omega
      have hll : l.length = l.length := rfl
      clear hl ht hle h1 h2
      obtain ⟨k, hk⟩ : ∃ k, l.length = k := ⟨_, rfl⟩
      rw [hk] at c0 hsl
      have HK := hidp hk
      clear hk hll
      have hwr : IntKind.i64.wrap ((s : Int) + (k : Int)) = (s : Int) + (k : Int) := by rw [IntKind.wrap_i64]; omega
      have hng : ¬ ((s : Int) + (k : Int) < 0) := by omega
      go_wp2
      go_roundg (m - (i + 1))
      case measure => omega
      case rel =>
        refine ⟨i + 1, s + k, by go_num, by go_num, by omega, rfl, by omega, (show Hid _ from ?_)⟩
        show _ = _
        rw [HT.out, List.length_append, ← HS.out, HK.out]
    · have hlz : ¬ (i : Int) < (m : Int) := by omega
      have hs2 : s = ls.flatten.length := by
        have := HS.out
        rw [List.take_of_length_le (by have := HM.out; omega)] at this
        exact this
      have hs0 : 0 < s := by have := H0.out; omega
      have HC := hidp (grow_z s hs0 (by omega) w)
      clear hs2 HS
      go_wp2_with (go_at_call 68; refine HC.out.mono ?_; rintro e w1 ⟨v1, rfl, o1, b1⟩; have HO1 := hidp o1; have HB1 := hidp b1; clear o1 b1)
      go_loopg [6, 27] m (fun g vo vj wr => ∃ (j : Nat), vj = .int .i64 j ∧ j + g = m ∧ Hid (OwnE EZ wr w.heap.size vo (ls.take j).flatten) ∧ Hid (Below w.heap.size w wr))
      case atStart => exact ⟨0, rfl, by omega, HO1, HB1⟩
      case round =>
        obtain ⟨j, rfl, hg, HO, HB⟩ := hrel
        by_cases hlt : j < m
        · have hlz : (j : Int) < (m : Int) := by omega
          obtain ⟨l, hl⟩ : ∃ l, ls[j]? = some l := ⟨_, List.getElem?_eq_getElem (by have := HM.out; omega)⟩
          obtain ⟨blk, off, q, c, rfl, _, c0, hsl⟩ := (HX.out.below HB.out).row hl
          have ht := cat_take ls hl
          have hle := cat_le ls (j + 1)
          rw [ht, List.length_append] at hle
          have HT := hidp ht
          have HSL := hidp hsl
          have HSZ : Hid (((ls.take j).flatten).length + l.length ≤ 1000000) := by show _ ≤ _; have := HN.out; omega
          have HBS : Hid (w.heap.size ≤ wr.heap.size) := HB.out.size
          clear hl ht hle hsl
          go_wp2_with (at_builtin; refine wpList_append_slE EZ rfl (.tmp 31) (.tmp 32) rfl w.heap.size _ _ _ l rfl rfl HO.out HSL.out HSZ.out HBS.out ?_; intro v2 w2 a1 a2; have hb2 := below_ownE HO.out a2 (Nat.le_refl _) HBS.out; have HB2 := hidp (HB.out.trans hb2); have HO2 := hidp a1; clear a1 a2 hb2)
          go_roundg (m - (j + 1))
          case measure => omega
          case rel =>
            refine ⟨j + 1, by go_num, by omega, ?_, HB2⟩
            show OwnE _ _ _ _ _
            rw [HT.out]; exact HO2.out
        · have hlz : ¬ (j : Int) < (m : Int) := by omega
          have he : ls.take j = ls := List.take_of_length_le (by have := HM.out; omega)
          rw [he] at HO
          go_wp2
          go_ret
          exact ⟨_, rfl, HO.out, HB.out⟩
#print axioms concat_z
#print axioms grow_z
end Go.Proofs.YtlaeaeciomkababDoor
