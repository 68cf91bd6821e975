/-
  Plain facts of the middle: the one at the place, what is left of a heap, what stands there when all is sorted.
-/
import Derived.Test.YtcjfbenbdjlodabKeysW
import Derived.Test.YtcjfbenbdjlodabSMath
import Derived.Test.YtcjfbenbdjlodabLawStF
namespace Go.Proofs.Ytcjfbenbdjlodab
open Go.RowKit Go.Sort Go.Proofs

def keyZ (xs : Array (Int × Int)) : List Int := xs.toList.map fun x => x.1
theorem keyZ_len (xs : Array (Int × Int)) : (keyZ xs).length = xs.size := by simp [keyZ]
theorem keyZ_at {xs : Array (Int × Int)} {i : Nat} (h : i < xs.size) : (keyZ xs)[i]? = some xs[i]!.1 := by
  rw [getElem!_pos xs i h]; simp [keyZ, h]
theorem keyZ_sorts {xs ys : Array (Int × Int)} (h : Sorts xs ys) : (keyZ ys).Perm (keyZ xs) ∧ (keyZ ys).Pairwise (· ≤ ·) := by
  refine ⟨(h.st.perm.map _).symm, ?_⟩
  unfold keyZ
  rw [List.pairwise_map]
  exact srt_pairwise h.srt
/-- What is left of a heap has at its head what stands at the place of how many went. -/
theorem popped_key {xs ys D : Array (Int × Int)} {os : List (Int × Int)} {p : Nat} (h : Pops xs os D) (h0 : 0 < D.size) (hs : Sorts xs ys) (hp : os.length = p) : ys[p]!.1 = D[0]!.1 := by
  obtain ⟨k1, k2⟩ := keyZ_sorts hs
  have hl : os.length + D.size = xs.size := by have := h.perm.length_eq; simpa using this
  have hys : ys.size = xs.size := hs.size
  have hm : D[0]! ∈ D.toList := by rw [getElem!_pos D 0 h0]; simp
  have hk : (keyZ ys).Perm (os.map (fun x => x.1) ++ keyZ D) := by
    refine k1.trans ?_
    have := (h.perm.map fun x => x.1).symm
    simpa [keyZ] using this
  obtain ⟨m, em⟩ : ∃ m, D[0]!.1 = m := ⟨_, rfl⟩
  have l1 : lessN (keyZ ys) m ≤ p := by
    have e : lessN (keyZ ys) m = lessN (os.map (fun x => x.1) ++ keyZ D) m := hk.countP_eq _
    have e2 : lessN (keyZ D) m = 0 := List.countP_eq_zero.2 fun y hy => by
      obtain ⟨d, hd, rfl⟩ := List.mem_map.1 hy
      have := root_mem h.heap d hd
      simp only [decide_eq_true_eq]; omega
    have e3 : lessN (os.map fun x => x.1) m ≤ (os.map fun x => x.1).length := List.countP_le_length
    rw [e]
    unfold lessN at *
    rw [List.countP_append, e2]
    rw [List.length_map] at e3
    omega
  have l2 : moreN (keyZ ys) m + p < (keyZ ys).length := by
    have hpp := (hpop_perm h0).map fun x => x.1
    have e : moreN (keyZ ys) m = moreN (os.map (fun x => x.1) ++ keyZ D) m := hk.countP_eq _
    have e2 : moreN (os.map fun x => x.1) m = 0 := List.countP_eq_zero.2 fun y hy => by
      obtain ⟨d, hd, rfl⟩ := List.mem_map.1 hy
      have := h.le d hd _ hm
      simp only [decide_eq_true_eq]; omega
    have e3 : moreN (keyZ D) m = moreN (D[0]!.1 :: keyZ (hpop D)) m := hpp.symm.countP_eq _
    have e4 : moreN (D[0]!.1 :: keyZ (hpop D)) m ≤ (keyZ (hpop D)).length := by
      unfold moreN
      rw [List.countP_cons_of_neg (by rw [em]; simp)]
      exact List.countP_le_length
    rw [keyZ_len, hpop_size] at e4
    rw [e, keyZ_len]
    unfold moreN at *
    rw [List.countP_append, e2, e3]
    omega
  have hpl : p < (keyZ ys).length := by rw [keyZ_len]; omega
  have := sorted_at k2 hpl l1 l2
  have e := keyZ_at (xs := ys) (i := p) (by rw [keyZ_len] at hpl; exact hpl)
  rw [List.getElem?_eq_getElem hpl, this] at e
  rw [em]
  exact (Option.some.inj e).symm
theorem mid_key {xs ys : Array (Int × Int)} {m : Int} {k : Nat} (h : MidOf (keyZ xs) m) (hs : Sorts xs ys) (hk : xs.size = k + 1) : ys[k / 2]!.1 = m := by
  obtain ⟨k1, k2⟩ := keyZ_sorts hs
  have := mid_at h (by rw [keyZ_len, hk]; omega) k1 k2
  rw [keyZ_len, hk, Nat.add_sub_cancel] at this
  have e := keyZ_at (xs := ys) (i := k / 2) (by rw [hs.size, hk]; omega)
  rw [this] at e
  exact (Option.some.inj e).symm
theorem key_ok {xs : Array (Int × Int)} (h : wrong xs = 0) {i : Nat} (hi : i < xs.size) : ¬ (xs[i]!.1 < -1000000 ∨ 1000000 < xs[i]!.1) := by
  have h60 := wrong_le h
  have ha : anyOut xs = false := by
    unfold wrong at h
    rw [if_neg (by omega)] at h
    cases e : anyOut xs
    · rfl
    · rw [e] at h; simp at h
  unfold anyOut at ha
  rw [List.any_eq_false] at ha
  have hm : xs[i]! ∈ xs.toList := by rw [getElem!_pos xs i hi]; simp
  have := ha _ hm
  intro q
  refine this (decide_eq_true ?_)
  rcases q with q | q
  · exact Or.inl q
  · exact Or.inr (Or.inl q)
theorem take_keys {xs : Array (Int × Int)} {i : Nat} {x0 x1 : Int} (hi : i < xs.size) (hx : xs[i]! = (x0, x1)) : (keyZ xs).take (i + 1) = (keyZ xs).take i ++ [x0] := by
  have e := keyZ_at hi
  rw [hx] at e
  obtain ⟨hk, hv⟩ := List.getElem?_eq_some_iff.1 e
  rw [List.take_succ_eq_append_getElem hk, hv]
/-- The least of the last one is that one. -/
theorem least_last {zs : List Int} {c m : Int} (h : LeastOf ((zs ++ [c]).drop ((zs ++ [c]).length - 1)) m) : m = c := by
  have e : (zs ++ [c]).drop ((zs ++ [c]).length - 1) = [c] := by simp
  rw [e] at h
  simpa using h.1
/-- Rows that lie apart from what changes. -/
theorem RdAt.far {w w' : World} {blk off : Nat} {d : Array (Int × Int)} (h : RdAt w blk off d) (hs : w.heap.size ≤ w'.heap.size) (hb : w'.heap[blk]? = w.heap[blk]?) : RdAt w' blk off d :=
  ⟨Nat.lt_of_lt_of_le h.1 hs, fun i hi => ⟨(World.cell?_of_block (a := ⟨blk, off + i * 2, none⟩) hb).trans (h.2 i hi).1, (World.cell?_of_block (a := ⟨blk, off + i * 2 + 1, none⟩) hb).trans (h.2 i hi).2⟩⟩
/-- A stream beside a heap in a list; what lies below w4 stays. -/
structure PickI (w4 : World) (sb : Nat) (zs : List Int) (f : List Nat) (gh : Nat) (H : Array (Int × Int)) (w : World) : Prop where
  st : StS w sb 1 zs f
  base : ∀ j ∈ f, w4.heap.size ≤ j ∧ j ≠ gh
  hp : RdAt w gh 0 H
  below : Below w4.heap.size w4 w
theorem PickI.put {w4 w : World} {sb gh : Nat} {zs : List Int} {f : List Nat} {H : Array (Int × Int)} (h : PickI w4 sb zs f gh H w) (hs : zs.length < 60) {c : Int} (hc : ¬ (c < -1000000 ∨ 1000000 < c)) :
    Calls Try.prog 7 #[.pointer (some ⟨sb, 0, none⟩), .int .i64 c] w fun e w' => e = .returned .nilIface ∧ ∃ f', PickI w4 sb (zs ++ [c]) f' gh H w' := by
  refine (ss_put h.st hs hc).mono ?_
  rintro e w' ⟨rfl, f', k, s⟩
  refine ⟨rfl, f', k, fun j hj => ?_, h.hp.far s.chg.size (s.chg.block gh h.hp.1 fun z => (h.base gh z).2 rfl), h.below.trans (s.chg.below (fun j z => (h.base j z).1) h.below.size)⟩
  rcases s.sub j hj with z | z
  · exact h.base j z
  · have := h.below.size
    have := h.hp.1
    exact ⟨by omega, by omega⟩
#print axioms popped_key
#print axioms PickI.put
end Go.Proofs.Ytcjfbenbdjlodab
