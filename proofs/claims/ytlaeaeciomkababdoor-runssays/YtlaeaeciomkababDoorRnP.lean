/-
  Plain facts of package runs: what a heap of numbers that wait holds, and what goes out of it.
-/
import Derived.Test.YtlaeaeciomkababDoorRMath
import Derived.Test.YtlaeaeciomkababDoorHSW
import Derived.Test.YtlaeaeciomkababDoorRnK
namespace Go.Proofs.YtlaeaeciomkababDoor
open Go.RowKit Go.Sort Go.Proofs

/-- For which run, and the number. -/
def hdOf (x : Int × Int) : Hd := ((valW x).1.toNat, (valW x).2)
def hdS (d : Array (Int × Int)) : List Hd := d.toList.map hdOf
/-- The run is none below 0, and the number is one that may be. -/
def GW (x : Int × Int) : Prop := 0 ≤ (valW x).1 ∧ KW x
theorem hdOf_itm (r c : Int) : hdOf (itmW r c) = (r.toNat, c) := by unfold hdOf; rw [val_itmW]
theorem gw_itm {r c : Int} (h : 0 ≤ r) (h1 : -1000000 ≤ c) (h2 : c ≤ 1000000) : GW (itmW r c) := by
  unfold GW KW
  rw [val_itmW]
  exact ⟨h, h1, h2⟩
theorem le_hd {a b : Int × Int} (ha : GW a) (hb : GW b) (h : a.1 ≤ b.1) : leH (hdOf a) (hdOf b) := by
  obtain ⟨a1, a2, a3⟩ := ha
  obtain ⟨b1, b2, b3⟩ := hb
  rw [leH_iff]
  unfold hdOf valW bigM at *
  simp only at *
  omega
theorem hdS_len (d : Array (Int × Int)) : (hdS d).length = d.size := by simp [hdS]
theorem hdS_push (d : Array (Int × Int)) (r c : Int) : (hdS (hpush d (itmW r c))).Perm (hdS d ++ [(r.toNat, c)]) := by
  have := (hpush_perm d (itmW r c)).map hdOf
  simpa [hdS, hdOf_itm] using this
theorem hdS_pop {d : Array (Int × Int)} (h : 0 < d.size) : (hdS d).Perm (hdOf d[0]! :: hdS (hpop d)) := by
  have := (hpop_perm h).map hdOf
  simpa [hdS] using this.symm
theorem hd_first {d : Array (Int × Int)} (hh : HeapFrom 0 d) (hg : AllP GW d) (h : 0 < d.size) : FirstH (hdS d) (hdOf d[0]!) := by
  refine ⟨(hdS_pop h).symm.subset List.mem_cons_self, fun y hy => ?_⟩
  obtain ⟨x, hx, rfl⟩ := List.mem_map.1 hy
  obtain ⟨j, hj, e⟩ := List.mem_iff_getElem.1 hx
  have hj' : j < d.size := by simpa using hj
  have ex : d[j]! = x := by rw [getElem!_pos d j hj']; simpa using e
  rw [← ex]
  exact le_hd (hg.at h) (hg.at hj') (hh.root j hj')
/-- How things stand. -/
structure MdP (room : Nat) (l came rest : List Int) (pre : List Hd) (d : Array (Int × Int)) : Prop where
  heap : HeapFrom 0 d
  good : AllP GW d
  run : RunI room came (hdS d) pre
  eq : pre ++ outR room rest (hdS d) = outs room l
  ll : l = came ++ rest
  rng : ∀ c ∈ l, -1000000 ≤ c ∧ c ≤ 1000000
theorem heap_nil' : HeapFrom 0 #[] := fun _ _ h => absurd h (Nat.not_lt_zero _)
theorem MdP.begin (room : Nat) (l : List Int) (h : ∀ c ∈ l, -1000000 ≤ c ∧ c ≤ 1000000) : MdP room l [] l [] #[] :=
  ⟨heap_nil', AllP.nil _, RunI.begin room, rfl, rfl, h⟩
theorem RunI.perm2 {room : Nat} {came : List Int} {S T pre : List Hd} (h : RunI room came S pre) (p : S.Perm T) : RunI room came T pre := by
  have pp : (pre ++ S).Perm (pre ++ T) := List.Perm.append_left pre p
  refine ⟨(pp.symm.map _).trans h.perm, h.up, fun o ho s hs => h.low o ho s (p.symm.subset hs), by rw [← p.length_eq]; exact h.few, fun r q => ?_⟩
  obtain ⟨x, hx, e⟩ := q
  rw [← ofR_perm pp]
  exact h.long r ⟨x, pp.symm.subset hx, e⟩
theorem MdP.size {room : Nat} {l came rest : List Int} {pre : List Hd} {d : Array (Int × Int)} (h : MdP room l came rest pre d) : d.size ≤ room := by rw [← hdS_len]; exact h.run.few
theorem MdP.hold {room : Nat} (hr : 1 ≤ room) {l came rest : List Int} {c : Int} {d : Array (Int × Int)} (h : MdP room l came (c :: rest) [] d) (hs : d.size < room) : MdP room l (came ++ [c]) rest [] (hpush d (itmW 0 c)) := by
  have hc := h.rng c (by rw [h.ll]; simp)
  have hp := hdS_push d 0 c
  have hl : (hdS d).length < room := by rw [hdS_len]; exact hs
  refine ⟨hpush_heap _ h.heap, h.good.hpush (gw_itm (Int.le_refl _) hc.1 hc.2), (h.run.hold hl c).perm2 hp.symm, ?_, by rw [h.ll]; simp, h.rng⟩
  have e := h.eq
  rw [outR_hold hr hl] at e
  rw [outR_perm room rest hp]
  exact e
theorem MdP.drain {room : Nat} (hr : 1 ≤ room) {l came : List Int} {pre : List Hd} {d : Array (Int × Int)} (h : MdP room l came [] pre d) (h0 : 0 < d.size) : MdP room l came [] (pre ++ [hdOf d[0]!]) (hpop d) := by
  have hx := hd_first h.heap h.good h0
  have hp := hdS_pop h0
  refine ⟨hpop_heap h.heap, h.good.hpop h0, h.run.drain hx hp, ?_, h.ll, h.rng⟩
  have e := h.eq
  rw [outR_drain hr hx hp] at e
  rw [List.append_assoc]
  exact e
theorem MdP.swap {room : Nat} (hr : 1 ≤ room) {l came rest : List Int} {pre : List Hd} {c : Int} {d : Array (Int × Int)} (h : MdP room l came (c :: rest) pre d) (hs : d.size = room) :
    MdP room l (came ++ [c]) rest (pre ++ [hdOf d[0]!]) (hpush (hpop d) (itmW ((newH (hdOf d[0]!) c).1 : Nat) c)) := by
  have h0 : 0 < d.size := by omega
  have hc := h.rng c (by rw [h.ll]; simp)
  have hx := hd_first h.heap h.good h0
  have hp := hdS_pop h0
  have hl : ¬ (hdS d).length < room := by rw [hdS_len]; omega
  have hq := hdS_push (hpop d) ((newH (hdOf d[0]!) c).1 : Nat) c
  have hq2 : (hdS (hpush (hpop d) (itmW ((newH (hdOf d[0]!) c).1 : Nat) c))).Perm (newH (hdOf d[0]!) c :: hdS (hpop d)) := by
    refine hq.trans ?_
    have e : (((newH (hdOf d[0]!) c).1 : Int).toNat, c) = newH (hdOf d[0]!) c := by
      rw [show (((newH (hdOf d[0]!) c).1 : Nat) : Int).toNat = (newH (hdOf d[0]!) c).1 by omega]
      exact Prod.ext rfl (newH_snd _ _).symm
    rw [e]
    exact List.perm_append_comm (l₁ := hdS (hpop d)) (l₂ := [newH (hdOf d[0]!) c])
  refine ⟨hpush_heap _ (hpop_heap h.heap), (h.good.hpop h0).hpush (gw_itm (by omega) hc.1 hc.2), (h.run.swap hr hl hx hp c).perm2 hq2.symm, ?_, by rw [h.ll]; simp, h.rng⟩
  have e := h.eq
  rw [outR_swap hr hl hx hp] at e
  rw [outR_perm room rest hq2, List.append_assoc]
  exact e
/-- What goes out goes to the last run, or begins the next one. -/
theorem MdP.put {room : Nat} (hr : 1 ≤ room) {l came rest : List Int} {pre : List Hd} {d : Array (Int × Int)} (h : MdP room l came rest pre d) (h0 : 0 < d.size) :
    (hdOf d[0]!).1 ≤ (rowsR pre).length ∧ putR (rowsR pre) (hdOf d[0]!).1 (hdOf d[0]!).2 = rowsR (pre ++ [hdOf d[0]!]) := by
  have hx := hd_first h.heap h.good h0
  generalize hdOf d[0]! = x at hx
  have hlow : ∀ o ∈ pre, leH o x := fun o ho => h.run.low o ho x hx.1
  have hle : x.1 ≤ topR pre := by
    rcases Nat.eq_zero_or_pos x.1 with q | q
    · omega
    · obtain ⟨y, hy, e⟩ := h.run.chain hr x.1 (x.1 - 1) (by omega) ⟨x, List.mem_append_right _ hx.1, rfl⟩
      rcases List.mem_append.1 hy with z | z
      · have := top_up h.run.up y z; omega
      · have := leH_run (hx.2 y z); omega
  have hge : topR pre ≤ x.1 + 1 := by
    rcases Nat.eq_zero_or_pos (topR pre) with q | q
    · omega
    · obtain ⟨z, hz, e⟩ := top_last q
      have := leH_run (hlow z hz); omega
  refine ⟨by rw [rowsR_len]; exact hle, ?_⟩
  unfold putR
  rw [rowsR_len]
  by_cases e : x.1 = topR pre
  · rw [if_pos e, rowsR_next h.run.up e]
  · rw [if_neg e, rowsR_same (by omega)]
    congr 2
    unfold rowsR
    rw [List.getD_eq_getElem?_getD, List.getElem?_map, List.getElem?_range (by omega)]; rfl
theorem filt_step (L : List Hd) (k : Nat) : (L.filter fun x => decide (x.1 < k)).length + (L.filter fun x => decide (x.1 = k)).length ≤ (L.filter fun x => decide (x.1 < k + 1)).length := by
  induction L with
  | nil => simp
  | cons y t ih2 =>
    simp only [List.filter_cons]
    rcases Nat.lt_trichotomy y.1 k with c | c | c
    · rw [if_pos (by simpa using c), if_neg (by simp; omega), if_pos (by simp; omega)]
      simp only [List.length_cons]; omega
    · rw [if_neg (by simp; omega), if_pos (by simpa using c), if_pos (by simp; omega)]
      simp only [List.length_cons]; omega
    · rw [if_neg (by simp; omega), if_neg (by simp; omega), if_neg (by simp; omega)]
      exact ih2
/-- How many there are. -/
theorem MdP.lens {room : Nat} {l came rest : List Int} {pre : List Hd} {d : Array (Int × Int)} (h : MdP room l came rest pre d) (hr : 1 ≤ room) (hl : l.length ≤ 60) : (rowsR pre).length ≤ 60 ∧ ∀ (i : Nat) (r : List Int), (rowsR pre)[i]? = some r → r.length ≤ 60 := by
  have hp := h.run.perm.length_eq
  have hll := congrArg List.length h.ll
  simp only [List.length_map, List.length_append] at hp hll
  have hpre : pre.length ≤ 60 := by omega
  refine ⟨?_, fun i r hi => ?_⟩
  · rw [rowsR_len]
    rcases Nat.eq_zero_or_pos (topR pre) with q | q
    · omega
    · obtain ⟨z, hz, e⟩ := top_last q
      -- each run ahead of it has one
      have hb : ∀ b, b ≤ z.1 → ∃ x ∈ pre, x.1 = b := by
        intro b hb
        obtain ⟨x, hx, ex⟩ := h.run.chain hr z.1 b hb ⟨z, List.mem_append_left _ hz, rfl⟩
        rcases List.mem_append.1 hx with t | t
        · exact ⟨x, t, ex⟩
        · have := leH_run (h.run.low z hz x t)
          exact ⟨z, hz, by omega⟩
      have : ∀ k, k ≤ topR pre → k ≤ (pre.filter fun x => decide (x.1 < k)).length := by
        intro k
        induction k with
        | zero => omega
        | succ k ih =>
          intro hk
          have h1 := ih (by omega)
          obtain ⟨x, hx, ex⟩ := hb k (by omega)
          have h2 := filt_step pre k
          have h3 : 0 < (pre.filter fun x => decide (x.1 = k)).length := List.length_pos_of_mem (List.mem_filter.2 ⟨hx, by simpa using ex⟩)
          omega
      have := this (topR pre) (Nat.le_refl _)
      have := List.length_filter_le (fun x : Hd => decide (x.1 < topR pre)) pre
      omega
  · unfold rowsR at hi
    rw [List.getElem?_map] at hi
    obtain ⟨k, _, rfl⟩ := Option.map_eq_some_iff.1 hi
    rw [rowR_len]
    have := ofR_le k pre
    omega
#print axioms MdP.put
#print axioms MdP.swap
#print axioms MdP.lens
end Go.Proofs.YtlaeaeciomkababDoor
