/-
  Rows of whole numbers of one's own: read, written, exchanged. (Written by wip/gen/qsink.py.)
-/
import Derived.Test.YtcjfbenbdjlodabZDel
import Derived.Test.YtcjfbenbdjlodabQMath
import Derived.Test.YtcjfbenbdjlodabHAbove
namespace Go.Proofs.Ytcjfbenbdjlodab
open Go.RowKit Go.Sort Go.Proofs

theorem OwnE.num {w : World} {base g n cap : Nat} {vs : List Int} (h : OwnE EZ w base (.slice (Option.some ⟨g, 0, none⟩) n cap) vs) {i : Nat} {k : Int} (hx : vs[i]? = Option.some k) : w.cell? ⟨g, i, none⟩ = Option.some (.int .i64 k) ∧ w.frozen? ⟨g, i, none⟩ = false := by
  obtain ⟨hl, _, _⟩ := h.capBound
  have hi := (List.getElem?_eq_some_iff.1 hx).1
  obtain ⟨g', cp, e, _, _, hr, hf⟩ := h.some hl (by omega)
  simp only [Value.slice.injEq, Option.some.injEq, Addr.mk.injEq] at e
  obtain ⟨⟨rfl, _⟩, _⟩ := e
  have := hr.int hx
  rw [Nat.zero_add] at this
  exact ⟨this, hf i⟩
theorem OwnE.setNum {w : World} {base g n cap : Nat} {vs : List Int} (h : OwnE EZ w base (.slice (Option.some ⟨g, 0, none⟩) n cap) vs) {i : Nat} (hi : i < n) (y : Int) : OwnE EZ (w.setCell ⟨g, i, none⟩ (.int .i64 y)) base (.slice (Option.some ⟨g, 0, none⟩) n cap) (vs.set i y) := by
  obtain ⟨hl, _, _⟩ := h.capBound
  have h1 := h.stretch (i := i) (zs := [y]) (by simp; omega)
  have e : w.setCells g (i * EZ.K) (EZ.flat [y]) = w.setCell ⟨g, i, none⟩ (.int .i64 y) := by
    show w.setCells g (i * 1) [.int .i64 y] = _
    rw [Nat.mul_one]; rfl
  rw [e] at h1
  have e2 : vs.take i ++ ([y] ++ vs.drop (i + [y].length)) = vs.set i y := by
    rw [List.set_eq_take_append_cons_drop, if_pos (by omega)]; rfl
  rw [e2] at h1
  exact h1
theorem swp_map (v : Int × Int → Int) (d : Array (Int × Int)) (i k : Nat) : (swp d i k).toList.map v = ((d.toList.map v).set i (v d[k]!)).set k (v d[i]!) := by
  unfold swp
  rw [Array.toList_setIfInBounds, Array.toList_setIfInBounds, List.map_set, List.map_set]
theorem map_at (v : Int × Int → Int) (d : Array (Int × Int)) {i : Nat} (h : i < d.size) : (d.toList.map v)[i]? = some (v d[i]!) := by
  rw [getElem!_pos d i h]; simp [h]
theorem exchanged_num {wq : World} {g n cap : Nat} {v : Int × Int → Int} {d : Array (Int × Int)} (h : OwnE EZ wq 0 (.slice (some ⟨g, 0, none⟩) n cap) (d.toList.map v)) {i k : Nat} (hi : i < n) (hk : k < n) {x z : Int} (hx : v d[i]! = x) (hz : v d[k]! = z) :
    OwnE EZ (((wq.setCell ⟨g, i, none⟩ (.int .i64 z)).setCell ⟨g, k, none⟩ (.int .i64 x)).drew) 0 (.slice (some ⟨g, 0, none⟩) n cap) ((swp d i k).toList.map v) := by
  rw [swp_map, hx, hz]
  exact (h.setNum hi z).setNum hk x
theorem exchanged_gn {w wq : World} {g : Nat} (h : w.grownBy wq (some g)) (a b : Nat) (u v : Value) : w.grownBy (((wq.setCell ⟨g, a, none⟩ u).setCell ⟨g, b, none⟩ v).drew) (some g) := gb_drewN (gb_set h a b u v) 1
theorem num_dn {w : World} {v : Value} {vs : List Int} (h : OwnE EZ w 0 v vs) (n : Nat) : OwnE EZ (w.drewN n) 0 v vs := h
#print axioms exchanged_num
end Go.Proofs.Ytcjfbenbdjlodab
