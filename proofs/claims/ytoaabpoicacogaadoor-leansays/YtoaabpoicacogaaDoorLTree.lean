/-
  Trees of package lean in memory.
-/
import Derived.Test.YtoaabpoicacogaaDoorElN
import Derived.Test.YtoaabpoicacogaaDoorLChk
import Derived.Deep.RegionHeld3
namespace Go.Proofs.YtoaabpoicacogaaDoor
open Go.RowKit Go.Proofs

theorem below_dn {B : Nat} {a w : World} (h : Below B a w) (n : Nat) : Below B a (w.drewN n) := ⟨h.os, h.tape, h.output, h.size, h.block⟩
/-- The pointer v leads to the tree t. -/
def TrAt (w : World) : LT → Value → Prop
  | ⟨none⟩, v => v = .pointer none
  | ⟨some (k, i, l, r)⟩, v => ∃ blk vl vr, v = .pointer (some ⟨blk, 0, none⟩) ∧ blk < w.heap.size ∧ w.cell? ⟨blk, 0, none⟩ = some (.int .i64 k) ∧ w.cell? ⟨blk, 1, none⟩ = some (.int .i64 i) ∧
      w.cell? ⟨blk, 2, none⟩ = some (.int .i64 ((r.spine + 1 : Nat) : Int)) ∧ w.cell? ⟨blk, 3, none⟩ = some vl ∧ w.cell? ⟨blk, 4, none⟩ = some vr ∧ TrAt w l vl ∧ TrAt w r vr
theorem TrAt.below {w w' : World} (hb : Below w.heap.size w w') : ∀ {t : LT} {v : Value}, TrAt w t v → TrAt w' t v
  | ⟨none⟩, _, h => h
  | ⟨some _⟩, _, ⟨blk, vl, vr, e, hlt, c0, c1, c2, c3, c4, hl, hr⟩ =>
    ⟨blk, vl, vr, e, Nat.lt_of_lt_of_le hlt hb.size, (hb.cell (p := ⟨blk, 0, none⟩) hlt).trans c0, (hb.cell (p := ⟨blk, 1, none⟩) hlt).trans c1, (hb.cell (p := ⟨blk, 2, none⟩) hlt).trans c2, (hb.cell (p := ⟨blk, 3, none⟩) hlt).trans c3, (hb.cell (p := ⟨blk, 4, none⟩) hlt).trans c4, TrAt.below hb hl, TrAt.below hb hr⟩
theorem TrAt.ptr {w : World} : ∀ {t : LT} {v : Value}, TrAt w t v → ∃ p, v = .pointer p
  | ⟨none⟩, _, h => ⟨none, h⟩
  | ⟨some _⟩, _, ⟨_, _, _, e, _⟩ => ⟨_, e⟩

theorem spineOf_any {w : World} {t : LT} {v : Value} (h : TrAt w t v) : Calls Tryd.prog 29 #[v] w fun e w' => e = .returned (.int .i64 (t.spine : Nat)) ∧ w' = w := by
  cases t using LT.parts with
  | nil =>
    obtain rfl : v = .pointer none := h
    go_enter Tryd.func29, Tryd.ntmps29
    go_wp2
    go_ret
    exact ⟨rfl, rfl⟩
  | node k i l r =>
    obtain ⟨blk, vl, vr, rfl, hlt, c0, c1, c2, c3, c4, hl, hr⟩ := h
    clear hl hr
    have e : LT.spine (.node k i l r) = r.spine + 1 := rfl
    rw [e]
    go_enter Tryd.func29, Tryd.ntmps29
    go_wp2
    go_ret
    exact ⟨rfl, rfl⟩
theorem itemOf_any (k d l r : Int) (w : World) : Calls Tryd.prog 53 #[.agg #[.int .i64 k, .int .i64 d, .int .i64 l, .int .i64 r]] w fun e w' => e = .returned (.agg #[.int .i64 k, .int .i64 d]) ∧ Below w.heap.size w w' := by
  go_enter Tryd.func53, Tryd.ntmps53
  go_wp2
  refine bodyPost_ret (by simp [results, Tryd.results53, go_sem]; try rfl) rfl ?_
  exact ⟨rfl, ((Below.refl _ _).alloc (Nat.le_refl _) _).alloc (by simp) _⟩

/-- Is the root's key less? -/
def fallsB (a : Int) : LT → Bool
  | ⟨none⟩ => false
  | ⟨some (k, _, _, _)⟩ => decide (k < a)
theorem fallsB_above {a : Int} {t : LT} (h : fallsB a t = false) : LT.above a t := by
  cases t using LT.parts with
  | nil => trivial
  | node k i l r => have := of_decide_eq_false h; show a ≤ k; omega
theorem fallsB_not {a : Int} {t : LT} (h : fallsB a t = true) : ¬ LT.above a t := by
  cases t using LT.parts with
  | nil => cases h
  | node k i l r => have := of_decide_eq_true h; show ¬ a ≤ k; omega
set_option maxHeartbeats 2000000 in
theorem falls_any {w : World} {t : LT} {v : Value} (a b : Int) (h : TrAt w t v) : Calls Tryd.prog 55 #[.agg #[.int .i64 a, .int .i64 b], v] w fun e w' => e = .returned (.bool (fallsB a t)) ∧ Below w.heap.size w w' := by
  cases t using LT.parts with
  | nil =>
    obtain rfl : v = .pointer none := h
    go_enter Tryd.func55, Tryd.ntmps55
    go_wp2_with fail
    go_quiet (fail)
    go_wp2
    go_ret
    exact ⟨rfl, below_dn ((Below.refl _ _).alloc (Nat.le_refl _) _) _⟩
  | node k i l r =>
    obtain ⟨blk, vl, vr, rfl, hlt, c0, c1, c2, c3, c4, hl, hr⟩ := h
    clear hl hr
    show Calls _ _ _ _ fun e w' => e = .returned (.bool (decide (k < a))) ∧ _
    have c0' : (w.alloc (.cells #[.int .i64 a, .int .i64 b] 24)).cell? ⟨blk, 0, none⟩ = some (.int .i64 k) := by rw [World.cell?_alloc_lt _ _ _ hlt]; exact c0
    have a0 : (w.alloc (.cells #[.int .i64 a, .int .i64 b] 24)).cell? ⟨w.heap.size, 0, none⟩ = some (.int .i64 a) := by simp
    have hb0 : Below w.heap.size w (w.alloc (.cells #[.int .i64 a, .int .i64 b] 24)) := (Below.refl _ _).alloc (Nat.le_refl _) _
    go_enter Tryd.func55, Tryd.ntmps55
    go_wp2_with fail
    generalize w.alloc (.cells #[.int .i64 a, .int .i64 b] 24) = w0 at c0' a0 hb0 ⊢
    go_quiet (fail)
    go_wp2
    go_ret
    exact ⟨rfl, below_dn hb0 _⟩
theorem TrAt.node_mk {w : World} {blk : Nat} {k i : Int} {l r : LT} {vl vr : Value} {sp : Int} (hlt : blk < w.heap.size) (c0 : w.cell? ⟨blk, 0, none⟩ = some (.int .i64 k)) (c1 : w.cell? ⟨blk, 1, none⟩ = some (.int .i64 i)) (c2 : w.cell? ⟨blk, 2, none⟩ = some (.int .i64 sp)) (c3 : w.cell? ⟨blk, 3, none⟩ = some vl) (c4 : w.cell? ⟨blk, 4, none⟩ = some vr)
    (hs : sp = (r.spine : Int) + 1) (hl : TrAt w l vl) (hr : TrAt w r vr) : TrAt w (.node k i l r) (.pointer (some ⟨blk, 0, none⟩)) :=
  ⟨blk, vl, vr, rfl, hlt, c0, c1, by rw [c2, hs]; rfl, c3, c4, hl, hr⟩
/-- A new node above two trees. -/
theorem TrAt.laid {w w2 : World} {k i s : Int} {l r : LT} {vl vr : Value} (hb : Below w.heap.size w w2) (hl : ∀ w', Below w.heap.size w w' → TrAt w' l vl) (hr : ∀ w', Below w.heap.size w w' → TrAt w' r vr) (hs : s = (r.spine : Int)) (n : Nat) :
    TrAt ((w2.drewN n).alloc (.cells #[.int .i64 k, .int .i64 i, .int .i64 (s + 1), vl, vr] 67)) (.node k i l r) (.pointer (some ⟨w2.heap.size, 0, none⟩)) ∧ Below w.heap.size w ((w2.drewN n).alloc (.cells #[.int .i64 k, .int .i64 i, .int .i64 (s + 1), vl, vr] 67)) := by
  have hb2 : Below w.heap.size w ((w2.drewN n).alloc (.cells #[.int .i64 k, .int .i64 i, .int .i64 (s + 1), vl, vr] 67)) := (below_dn hb n).alloc hb.size _
  have e : (w2.drewN n).heap.size = w2.heap.size := rfl
  rw [← e]
  generalize w2.drewN n = w3 at hb2 ⊢
  refine ⟨TrAt.node_mk (sp := s + 1) (by simp) ?_ ?_ ?_ ?_ ?_ (by rw [hs]) (hl _ hb2) (hr _ hb2), hb2⟩
  all_goals simp
set_option maxHeartbeats 2000000 in
theorem leaning_any {w : World} {l r : LT} {vl vr : Value} (k i : Int) (hl : TrAt w l vl) (hr : TrAt w r vr) (hls : l.spine ≤ 1000) (hrs : r.spine ≤ 1000) :
    Calls Tryd.prog 44 #[.agg #[.int .i64 k, .int .i64 i], vl, vr] w fun e w' => ∃ v', e = .returned v' ∧ TrAt w' (LT.mk k i l r) v' ∧ Below w.heap.size w w' := by
  obtain ⟨pl, rfl⟩ := hl.ptr
  obtain ⟨pr, rfl⟩ := hr.ptr
  have hb0 : Below w.heap.size w (w.alloc (.cells #[.int .i64 k, .int .i64 i] 24)) := (Below.refl _ _).alloc (Nat.le_refl _) _
  have a0 : (w.alloc (.cells #[.int .i64 k, .int .i64 i] 24)).cell? ⟨w.heap.size, 0, none⟩ = some (.int .i64 k) := by simp
  have a1 : (w.alloc (.cells #[.int .i64 k, .int .i64 i] 24)).cell? ⟨w.heap.size, 1, none⟩ = some (.int .i64 i) := by simp
  have HL : Hid (∀ w', Below w.heap.size w w' → TrAt w' l (.pointer pl)) := fun w' hb => hl.below hb
  have HR : Hid (∀ w', Below w.heap.size w w' → TrAt w' r (.pointer pr)) := fun w' hb => hr.below hb
  clear hl hr
  have cl := fun w' (hb : Below w.heap.size w w') => spineOf_any (HL.out w' hb)
  have cr := fun w' (hb : Below w.heap.size w w') => spineOf_any (HR.out w' hb)
  obtain ⟨sl, hsl⟩ : ∃ s, l.spine = s := ⟨_, rfl⟩
  obtain ⟨sr, hsr⟩ : ∃ s, r.spine = s := ⟨_, rfl⟩
  rw [hsl] at cl hls
  rw [hsr] at cr hrs
  have HSL : Hid (l.spine = sl) := hsl
  have HSR : Hid (r.spine = sr) := hsr
  have CL : Hid (∀ w', Below w.heap.size w w' → Calls Tryd.prog 29 #[.pointer pl] w' fun e w2 => e = .returned (.int .i64 sl) ∧ w2 = w') := cl
  have CR : Hid (∀ w', Below w.heap.size w w' → Calls Tryd.prog 29 #[.pointer pr] w' fun e w2 => e = .returned (.int .i64 sr) ∧ w2 = w') := cr
  clear hsl hsr cl cr
  have wl : IntKind.i64.wrap ((sl : Int) + 1) = (sl : Int) + 1 := by rw [IntKind.wrap_i64]; omega
  have wr : IntKind.i64.wrap ((sr : Int) + 1) = (sr : Int) + 1 := by rw [IntKind.wrap_i64]; omega
  go_enter Tryd.func44, Tryd.ntmps44
  go_wp2_with fail
  generalize w.alloc (.cells #[.int .i64 k, .int .i64 i] 24) = w0 at hb0 a0 a1 ⊢
  refine (CL.out w0 hb0).mono ?_
  rintro e w1 ⟨rfl, rfl⟩
  go_wp2_with fail
  refine (CR.out w1 hb0).mono ?_
  rintro e w2 ⟨rfl, rfl⟩
  by_cases hlt : sl < sr
  · have hz : (sl : Int) < (sr : Int) := by omega
    go_wp2_with fail
    go_region_with (first | (go_at_call 29; refine (CL.out _ (below_dn hb0 1)).mono ?_; rintro e w' ⟨rfl, rfl⟩))
    all_goals
      go_wp2
      go_ret
      refine ⟨_, rfl, ?_⟩
      unfold LT.mk
      rw [if_pos (by rw [HSL.out, HSR.out]; exact hlt)]
      exact TrAt.laid hb0 HR.out HL.out (by rw [HSL.out]) 1
  · have hz : ¬ (sl : Int) < (sr : Int) := by omega
    go_wp2_with fail
    go_region_with (first | (go_at_call 29; refine (CR.out _ (below_dn hb0 1)).mono ?_; rintro e w' ⟨rfl, rfl⟩))
    all_goals
      go_wp2
      go_ret
      refine ⟨_, rfl, ?_⟩
      unfold LT.mk
      rw [if_neg (by rw [HSL.out, HSR.out]; exact hlt)]
      exact TrAt.laid hb0 HL.out HR.out (by rw [HSR.out]) 1
#print axioms leaning_any
end Go.Proofs.YtoaabpoicacogaaDoor
