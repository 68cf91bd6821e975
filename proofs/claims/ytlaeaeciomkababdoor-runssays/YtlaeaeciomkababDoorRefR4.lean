/-
  The document's runs: what Runs keeps (plain), and its held numbers as elements.
-/
import Derived.Test.YtlaeaeciomkababDoorRefR3
namespace Go.Proofs.YtlaeaeciomkababDoor
open Go.RowKit Go.Sort Go.Proofs

def encH (x : Hd) : List Value := [.int .i64 x.1, .int .i64 x.2]
def EH : El Tryd.prog Hd where
  enc := encH
  K := 2
  T := 64
  S := 62
  zero := .agg #[.int .i64 0, .int .i64 0]
  bytes := 16
  pos := by decide
  small := by decide
  len := fun _ => rfl
  one := fun x v hv => by
    simp only [encH, List.mem_cons, List.not_mem_nil, or_false] at hv
    rcases hv with rfl | rfl <;> rfl
  zlen := rfl
  info := by kernel_rfl
  under := Tryd.underlying62
theorem RdE.hd {w : World} {blk off i : Nat} {xs : List Hd} (h : RdE EH w blk off xs) {x : Hd} (hx : xs[i]? = some x) :
    w.cell? ⟨blk, off + i * 2, none⟩ = some (.int .i64 x.1) ∧ w.cell? ⟨blk, off + i * 2 + 1, none⟩ = some (.int .i64 x.2) := by
  have h0 := h.cell hx (c := 0) rfl
  have h1 := h.cell hx (c := 1) rfl
  simp only [EH] at h0 h1
  exact ⟨by simpa using h0, h1⟩
/-- One place of a list, given another. -/
theorem set_perm {α : Type} {S : List α} {k : Nat} {x : α} (h : S[k]? = some x) (y : α) : (S.set k y).Perm (y :: S.eraseIdx k) ∧ S.Perm (x :: S.eraseIdx k) := by
  obtain ⟨hk, e⟩ := List.getElem?_eq_some_iff.1 h
  have e1 : S.set k y = S.take k ++ y :: S.drop (k + 1) := by rw [List.set_eq_take_append_cons_drop, if_pos hk]
  have e2 : S.eraseIdx k = S.take k ++ S.drop (k + 1) := List.eraseIdx_eq_take_drop_succ S k
  have e3 : S = S.take k ++ x :: S.drop (k + 1) := by rw [← e, List.getElem_cons_drop, List.take_append_drop]
  refine ⟨by rw [e1, e2]; exact List.perm_middle, ?_⟩
  rw [e2]
  conv => lhs; rw [e3]
  exact List.perm_middle
/-- The last one in a place's stead, and the last place gone. -/
theorem cut_perm {α : Type} {S : List α} {k n : Nat} {x z : α} (h : S[k]? = some x) (hn : S.length = n + 1) (hz : S[n]? = some z) : S.Perm (x :: (S.set k z).take n) := by
  have p := (set_perm h z).2
  obtain ⟨hk, _⟩ := List.getElem?_eq_some_iff.1 h
  have p2 := (set_perm h z).1
  have hl : (S.set k z).length = n + 1 := by simp [hn]
  have hzz : (S.set k z)[n]? = some z := by
    rw [List.getElem?_set]
    by_cases c : k = n
    · rw [if_pos c, if_pos (by omega)]
    · rw [if_neg c]; exact hz
  obtain ⟨hn2, e2⟩ := List.getElem?_eq_some_iff.1 hzz
  have e3 : S.set k z = (S.set k z).take n ++ [z] := by
    conv => lhs; rw [← List.take_append_drop n (S.set k z)]
    congr 1
    rw [List.drop_eq_getElem_cons hn2, e2, List.drop_of_length_le (by omega)]
  have p3 : (z :: (S.set k z).take n).Perm (z :: S.eraseIdx k) := by
    refine List.Perm.trans ?_ p2
    conv => rhs; rw [e3]
    exact List.perm_append_comm (l₁ := [z])
  exact p.trans ((List.Perm.cons_inv p3).symm.cons x)
/-- How things stand with the document's. -/
structure DcP (room : Nat) (l came rest : List Int) (pre S : List Hd) : Prop where
  run : RunI room came S pre
  eq : pre ++ outR room rest S = outs room l
  ll : l = came ++ rest
  fit : pre = [] ∨ rest = [] ∨ ¬ S.length < room
theorem DcP.begin (room : Nat) (l : List Int) : DcP room l [] l [] [] := ⟨RunI.begin room, rfl, rfl, Or.inl rfl⟩
theorem DcP.hold {room : Nat} (hr : 1 ≤ room) {l came rest : List Int} {c : Int} {pre S : List Hd} (h : DcP room l came (c :: rest) pre S) (hs : S.length < room) : pre = [] ∧ DcP room l (came ++ [c]) rest [] (S ++ [(0, c)]) := by
  have e : pre = [] := by
    rcases h.fit with z | z | z
    · exact z
    · cases z
    · exact absurd hs z
  subst e
  refine ⟨rfl, h.run.hold hs c, ?_, by rw [h.ll]; simp, Or.inl rfl⟩
  have e := h.eq
  rw [outR_hold hr hs] at e
  exact e
theorem DcP.swap {room : Nat} (hr : 1 ≤ room) {l came rest : List Int} {c : Int} {pre S : List Hd} {x : Hd} {k : Nat} (h : DcP room l came (c :: rest) pre S) (hs : ¬ S.length < room) (hk : S[k]? = some x) (hx : FirstH S x) :
    DcP room l (came ++ [c]) rest (pre ++ [x]) (S.set k (newH x c)) := by
  obtain ⟨p1, p2⟩ := set_perm hk (newH x c)
  refine ⟨(h.run.swap hr hs hx p2 c).perm2 p1.symm, ?_, by rw [h.ll]; simp, Or.inr (Or.inr (by rw [List.length_set]; exact hs))⟩
  have e := h.eq
  rw [outR_swap hr hs hx p2] at e
  rw [outR_perm room rest p1, List.append_assoc]
  exact e
theorem DcP.drain {room : Nat} (hr : 1 ≤ room) {l came : List Int} {pre S T : List Hd} {x : Hd} (h : DcP room l came [] pre S) (hx : FirstH S x) (hp : S.Perm (x :: T)) : DcP room l came [] (pre ++ [x]) T := by
  refine ⟨h.run.drain hx hp, ?_, h.ll, Or.inr (Or.inl rfl)⟩
  have e := h.eq
  rw [outR_drain hr hx hp] at e
  rw [List.append_assoc]
  exact e
theorem DcP.done {room : Nat} {l came : List Int} {pre : List Hd} (h : DcP room l came [] pre []) : pre = outs room l := by
  have := h.eq
  rwa [outR_end, List.append_nil] at this
/-- What goes out goes to the last run, or begins the next one. -/
theorem RunI.put {room : Nat} (hr : 1 ≤ room) {came : List Int} {pre S : List Hd} {x : Hd} (h : RunI room came S pre) (hx : FirstH S x) :
    x.1 ≤ (rowsR pre).length ∧ putR (rowsR pre) x.1 x.2 = rowsR (pre ++ [x]) := by
  have hlow : ∀ o ∈ pre, leH o x := fun o ho => h.low o ho x hx.1
  have hle : x.1 ≤ topR pre := by
    rcases Nat.eq_zero_or_pos x.1 with q | q
    · omega
    · obtain ⟨y, hy, e⟩ := h.chain hr x.1 (x.1 - 1) (by omega) ⟨x, List.mem_append_right _ hx.1, rfl⟩
      rcases List.mem_append.1 hy with z | z
      · have := top_up h.up y z; omega
      · have := leH_run (hx.2 y z); omega
  have hge : topR pre ≤ x.1 + 1 := by
    rcases Nat.eq_zero_or_pos (topR pre) with q | q
    · omega
    · obtain ⟨z, hz, e⟩ := top_last q
      have := leH_run (hlow z hz); omega
  refine ⟨by rw [rowsR_len]; exact hle, ?_⟩
  unfold putR
  rw [rowsR_len]
  by_cases e : x.1 = topR pre
  · rw [if_pos e, rowsR_next h.up e]
  · rw [if_neg e, rowsR_same (by omega)]
    congr 2
    unfold rowsR
    rw [List.getD_eq_getElem?_getD, List.getElem?_map, List.getElem?_range (by omega)]; rfl
/-- How many there are. -/
theorem RunI.lens {room : Nat} {came : List Int} {pre S : List Hd} (h : RunI room came S pre) (hr : 1 ≤ room) (hl : came.length ≤ 60) : (rowsR pre).length ≤ 60 ∧ (∀ (i : Nat) (r : List Int), (rowsR pre)[i]? = some r → r.length ≤ 60) ∧ S.length ≤ 60 := by
  have hp := h.perm.length_eq
  simp only [List.length_map, List.length_append] at hp
  have hpre : pre.length ≤ 60 := by omega
  refine ⟨?_, fun i r hi => ?_, by omega⟩
  · rw [rowsR_len]
    rcases Nat.eq_zero_or_pos (topR pre) with q | q
    · omega
    · obtain ⟨z, hz, e⟩ := top_last q
      have hb : ∀ b, b ≤ z.1 → ∃ x ∈ pre, x.1 = b := by
        intro b hb
        obtain ⟨x, hx, ex⟩ := h.chain hr z.1 b hb ⟨z, List.mem_append_left _ hz, rfl⟩
        rcases List.mem_append.1 hx with t | t
        · exact ⟨x, t, ex⟩
        · have := leH_run (h.low z hz x t)
          exact ⟨z, hz, by omega⟩
      have : ∀ k, k ≤ topR pre → k ≤ (pre.filter fun x => decide (x.1 < k)).length := by
        intro k
        induction k with
        | zero => omega
        | succ k ih =>
          intro hk
          have h1 := ih (by omega)
          obtain ⟨x, hx, ex⟩ := hb k (by omega)
          have h2 := filt_step pre k
          have h3 : 0 < (pre.filter fun x => decide (x.1 = k)).length := List.length_pos_of_mem (List.mem_filter.2 ⟨hx, by simpa using ex⟩)
          omega
      have := this (topR pre) (Nat.le_refl _)
      have := List.length_filter_le (fun x : Hd => decide (x.1 < topR pre)) pre
      omega
  · unfold rowsR at hi
    rw [List.getElem?_map] at hi
    obtain ⟨k, _, rfl⟩ := Option.map_eq_some_iff.1 hi
    rw [rowR_len]
    have := ofR_le k pre
    omega
/-- The least of the first ones, and of one more. -/
def BestK (S : List Hd) (i k : Nat) : Prop := ∃ x, S[k]? = some x ∧ ∀ (j : Nat) (y : Hd), j < i → S[j]? = some y → leH x y
theorem BestK.one {S : List Hd} (h : 0 < S.length) : BestK S 0 0 := ⟨S[0], List.getElem?_eq_getElem h, fun j y hj => by omega⟩
theorem BestK.stay {S : List Hd} {i k : Nat} {x y : Hd} (h : BestK S i k) (hx : S[k]? = some x) (hy : S[i]? = some y) (hn : ¬ ltH y x) : BestK S (i + 1) k := by
  obtain ⟨x', hx', hb⟩ := h
  rw [hx] at hx'; cases hx'
  refine ⟨x, hx, fun j z hj hz => ?_⟩
  rcases Nat.lt_or_ge j i with c | c
  · exact hb j z c hz
  · obtain rfl : j = i := by omega
    rw [hy] at hz; cases hz; exact hn
theorem BestK.move {S : List Hd} {i k : Nat} {x y : Hd} (h : BestK S i k) (hx : S[k]? = some x) (hy : S[i]? = some y) (hn : ltH y x) : BestK S (i + 1) i := by
  obtain ⟨x', hx', hb⟩ := h
  rw [hx] at hx'; cases hx'
  refine ⟨y, hy, fun j z hj hz => ?_⟩
  have hyx : leH y x := by rw [leH_iff]; unfold ltH at hn; omega
  rcases Nat.lt_or_ge j i with c | c
  · exact leH_trans hyx (hb j z c hz)
  · obtain rfl : j = i := by omega
    rw [hy] at hz; cases hz; exact leH_refl _
theorem BestK.first {S : List Hd} {k : Nat} {x : Hd} (h : BestK S S.length k) (hx : S[k]? = some x) : FirstH S x := by
  obtain ⟨x', hx', hb⟩ := h
  rw [hx] at hx'; cases hx'
  refine ⟨List.mem_of_getElem? hx, fun y hy => ?_⟩
  obtain ⟨j, hj⟩ := List.getElem?_of_mem hy
  exact hb j y (List.getElem?_eq_some_iff.1 hj).1 hj
#print axioms DcP.swap
#print axioms RunI.put
#print axioms RunI.lens
#print axioms BestK.first
#print axioms cut_perm
end Go.Proofs.YtlaeaeciomkababDoor
