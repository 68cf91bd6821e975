/-
  slices.Insert of one pointer ahead of a row of one's own (package soft's trees).
-/
import Derived.Test.YtdpfijhkbhmkgaaDoorSoX
import Derived.Shelf.Spec.SlicesInsertGrow
namespace Go.Proofs.YtdpfijhkbhmkgaaDoor
open Go.RowKit Go.Sort Go.Proofs Go.Lib

/-- Cells that are there and may be written; cells that hold these values. -/
def Cov (w : World) (b o n : Nat) : Prop := ∀ j, j < n → (w.cell? ⟨b, o + j, none⟩).isSome = true ∧ w.frozen? ⟨b, o + j, none⟩ = false
def Lie (w : World) (b o : Nat) (cs : List Value) : Prop := ∀ j v, cs[j]? = some v → w.cell? ⟨b, o + j, none⟩ = some v
theorem cov_block {w : World} {b o n : Nat} {cur : Array Value} {T : TypeId} (h : w.heap[b]? = some (.cells cur T (0, 0))) (hn : o + n ≤ cur.size) : Cov w b o n := by
  intro j hj
  have : o + j < cur.size := by omega
  simp [World.cell?, World.frozen?, h, this]
theorem lie_block {w : World} {b : Nat} {cur : Array Value} {T : TypeId} {fr : Nat × Nat} {pre cs post : List Value} (h : w.heap[b]? = some (.cells cur T fr)) (hl : cur.toList = pre ++ (cs ++ post)) : Lie w b pre.length cs := by
  intro j v hj
  have h1 : cur.toList[pre.length + j]? = some v := by
    rw [hl, List.getElem?_append_right (by omega), Nat.add_sub_cancel_left, List.getElem?_append_left (List.getElem?_eq_some_iff.1 hj).1]; exact hj
  have h2 : cur[pre.length + j]? = some v := by simpa using h1
  simp [World.cell?, h, h2]
theorem size_EP : ∀ w, (Go.sizeOf 62).run Tryd.prog w = .ok 1 w := by
  intro w
  obtain ⟨i0, hi0, hz0, hz1, hz2⟩ := EP.infoE
  have hi0' : Tryd.prog.info? 62 = some i0 := hi0
  have hz1' : i0.size = 1 := hz1
  simp [Go.sizeOf, typeInfo, hi0', hz1']
theorem run_copyP {w : World} {b o b' o' : Nat} {cs : List Value} (hd : Cov w b o cs.length) (hs : Lie w b' o' cs) (h1 : ∀ v ∈ cs, v.oneCell' = true) (ty : TypeId) (k k' dc sc : Nat) (hn : cs.length = Nat.min k' k) :
    (Builtin.copy_ #[58, 58] ty #[.slice (some ⟨b, o, none⟩) k dc, .slice (some ⟨b', o', none⟩) k' sc]).run Tryd.prog w = .ok (goInt cs.length) (w.setCells b o cs) := by
  obtain ⟨i0, hi0, hz0, hz1, hz2⟩ := EP.infoE
  have hi0' : Tryd.prog.info? 62 = some i0 := hi0
  have hz1' : i0.size = 1 := hz1
  exact run_copy_cells w _ _ ty 62 b o k dc ⟨b', o', none⟩ k' sc cs EP.under (by rw [hi0']; simp [hz1']) hn (fun j v hj => by rw [addr_add]; exact hs j v hj) (fun j hj => (hd j hj).1) (fun j hj => (hd j hj).2) h1
/-- One element more, ahead of all, where there is room: what lies there then. -/
theorem ahead_own {w : World} {base b n c : Nat} {d : List (Option Addr)} (h : OwnE EP w base (.slice (some ⟨b, 0, none⟩) n c) d) (hn : 0 < n) (hc : n < c) (q : Option Addr) :
    Cov w b 1 (EP.flat d).length ∧ Lie w b 0 (EP.flat d) ∧ Cov (w.setCells b 1 (EP.flat d)) b 0 1 ∧ OwnE EP ((w.setCells b 1 (EP.flat d)).setCells b 0 [.pointer q]) base (.slice (some ⟨b, 0, none⟩) (n + 1) c) (q :: d) ∧ w.grownBy ((w.setCells b 1 (EP.flat d)).setCells b 0 [.pointer q]) (some b) ∧ (EP.flat d).length = n := by
  obtain ⟨cur, rest, hl, hb, hg, hnc, hm, hs, ht⟩ := h.rest
  have hfl : (EP.flat d).length = n := by rw [El.flat_len, hl]; exact Nat.mul_one n
  have hs' : cur.size = c := by rw [hs]; exact Nat.mul_one c
  have hrl : rest.length = c - n := by
    have := congrArg List.length ht
    rw [Array.length_toList, List.length_append, hfl] at this
    omega
  obtain ⟨x, rest', rfl⟩ : ∃ x r, rest = x :: r := List.exists_cons_of_length_pos (by omega)
  obtain ⟨p0, ds, hp⟩ : ∃ p ds, EP.flat d = p :: ds := List.exists_cons_of_length_pos (by omega)
  have e1 : cur.toList = [p0] ++ ((ds ++ [x]) ++ rest') := by rw [ht, hp]; simp
  obtain ⟨c1, g1, t1⟩ := heap_stretch (EP.flat d) [p0] (ds ++ [x]) rest' w cur hg e1 (by rw [hp]; simp)
  have e2 : c1.toList = [] ++ ([p0] ++ (EP.flat d ++ rest')) := by rw [t1]; rfl
  obtain ⟨c2, g2, t2⟩ := heap_stretch [.pointer q] [] [p0] (EP.flat d ++ rest') _ c1 g1 e2 rfl
  have s1 : c1.size = c := by
    rw [← hs', ← Array.length_toList, ← Array.length_toList, t1, e1, hp]
    simp
    omega
  have s2 : c2.size = c := by
    rw [← s1, ← Array.length_toList, ← Array.length_toList, t2, e2]
    simp
  refine ⟨cov_block hg (by omega), lie_block (pre := []) (post := x :: rest') hg (by rw [ht]; rfl), cov_block g1 (by omega), OwnE.of_rest (rest := rest') (by simp [hl]) hb g2 (by omega) hm (by rw [s2]; exact (Nat.mul_one c).symm) (by rw [t2]; rfl), ?_, hfl⟩
  have k1 := gb_setCells w b 1 (EP.flat d)
  have k2 := gb_setCells (w.setCells b 1 (EP.flat d)) b 0 [.pointer q]
  exact ⟨k2.os.trans k1.os, k2.tape.trans k1.tape, k2.output.trans k1.output, Nat.le_trans k1.size k2.size, fun k hk hne => (k2.block k (Nat.lt_of_lt_of_le hk k1.size) hne).trans (k1.block k hk hne)⟩
/-- What slices.Insert does with one pointer at the place 0. -/
def InsP (w : World) (base : Nat) (v : Value) (q : Option Addr) (d : List (Option Addr)) (w' : World) (v' : Value) : Prop :=
  OwnE EP w' base v' (q :: d) ∧ w.grownBy w' v.ownBlock ∧ (v'.ownBlock = v.ownBlock ∨ v'.ownBlock = some w.heap.size)
theorem lie_kept {w : World} {vb b o : Nat} {q : Option Addr} {vs : List Value} (hv : w.heap[vb]? = some (.cells #[.pointer q] 62 (0, 0))) (hvb : vb ≠ b) : Lie (w.setCells b o vs) vb 0 [.pointer q] := by
  have hlt := (Array.getElem?_eq_some_iff.1 hv).1
  exact lie_block (pre := []) (post := []) (((gb_setCells w b o vs).block vb hlt (by simpa using hvb)).trans hv) rfl
set_option maxHeartbeats 4000000 in
set_option maxRecDepth 100000 in
theorem insert_room {w : World} {base b n c vb : Nat} {q : Option Addr} {d : List (Option Addr)} (h : OwnE EP w base (.slice (some ⟨b, 0, none⟩) n c) d) (hn : 0 < n) (hc : n < c) (hv : w.heap[vb]? = some (.cells #[.pointer q] 62 (0, 0))) (hvb : vb ≠ b) :
    Calls Tryd.prog 26 #[.slice (some ⟨b, 0, none⟩) n c, .int .i64 0, .slice (some ⟨vb, 0, none⟩) 1 1] w fun e w' => ∃ v', e = .returned v' ∧ InsP w base (.slice (some ⟨b, 0, none⟩) n c) q d w' v' := by
  obtain ⟨cur, rest, _, _, hg, hnc, hm, hs, _⟩ := h.rest
  have hd : OwnE EP w.drew base (.slice (some ⟨b, 0, none⟩) n c) d := h
  obtain ⟨a1, a2, a3, a4, a5, a6⟩ := ahead_own hd hn hc q
  have hc63 : c ≤ 9223372036854775807 := by unfold maxLen at hm; omega
  have hlv := lie_kept (b := b) (o := 1) (vs := EP.flat d) (w := w.drew) hv hvb
  have hov : ∀ lb cb, (callFunc 39 #[.slice (some ⟨vb, 0, none⟩) 1 1, .slice (some ⟨b, 1, none⟩) lb cb]).run Tryd.prog w = .ok (.value (.bool false)) w := fun lb cb => by
    rw [run_callFunc_extern Tryd.func39 (by kernel_rfl) (by kernel_rfl) (by kernel_rfl) (e := Extern.SlicesOverlaps.overlaps #[58, 58] #[4]) (by kernel_rfl),
      Lib.run_overlaps_apart w 58 4 62 EP.under 1 size_EP ⟨vb, 0, none⟩ ⟨b, 1, none⟩ 1 1 lb cb hvb 62 62 1 cur.size (by simp [World.shape?, hv]) (by simp [World.shape?, hg]; rfl) (by rw [hs]; show c * 1 ≠ 0; omega) (by simp [World.frozen?, hv]) (by simp [World.frozen?, hv])]
    rfl
  obtain ⟨W1, hW1⟩ : ∃ W1, W1 = w.drew.setCells b 1 (EP.flat d) := ⟨_, rfl⟩
  obtain ⟨W2, hW2⟩ : ∃ W2, W2 = W1.setCells b 0 [.pointer q] := ⟨_, rfl⟩
  rw [← hW1] at a3 a4 a5 hlv
  rw [← hW2] at a4 a5
  have cp1 : ∀ ty dc sc, (Builtin.copy_ #[58, 58] ty #[.slice (some ⟨b, 1, none⟩) n dc, .slice (some ⟨b, 0, none⟩) (n + 1) sc]).run Tryd.prog w.drew = .ok (goInt (EP.flat d).length) W1 := fun ty dc sc => by
    rw [hW1]; exact run_copyP a1 a2 (EP.flat_cell d) ty n (n + 1) dc sc (by rw [a6]; simp only [Nat.min_def]; split <;> omega)
  have cp2 : ∀ ty dc, (Builtin.copy_ #[58, 58] ty #[.slice (some ⟨b, 0, none⟩) (n + 1) dc, .slice (some ⟨vb, 0, none⟩) 1 1]).run Tryd.prog W1 = .ok (goInt 1) W2 := fun ty dc => by
    rw [hW2]; exact run_copyP (cs := [.pointer q]) a3 hlv (fun v hv' => by rw [List.mem_singleton.1 hv']; rfl) ty (n + 1) 1 dc 1 (by show 1 = _; simp only [Nat.min_def]; split <;> omega)
  have HP : Hid (InsP w base (.slice (some ⟨b, 0, none⟩) n c) q d W2 (.slice (some ⟨b, 0, none⟩) (n + 1) c)) := ⟨a4, ⟨a5.os, a5.tape, a5.output, a5.size, a5.block⟩, Or.inl rfl⟩
  have hz2 : ¬ ((0 : Int) = (n : Int)) := by omega
  have hz3 : ¬ n = 0 := by omega
  have hz4 : ¬ ((c : Int) < (n : Int) + 1) := by omega
  have hz5 : ¬ c = 1 := by omega
  have hz6 : ¬ c = 0 := by omega
  have hz7 : n + 1 ≤ c := by omega
  have hw1 : IntKind.i64.wrap 1 = 1 := by rw [IntKind.wrap_i64]; omega
  have hz8 : (1 : Int) ≤ (n : Int) + 1 := by omega
  have hz9 : (0 : Int) ≤ (n : Int) + 1 := by omega
  clear a1 a2 a3 a4 a5 a6 hd h hlv hs hm hg hv hW1 hW2
  go_enter Tryd.func26, Tryd.ntmps26
  go_wp2_with (simp only [hov])
  go_region_law (refine step_copy_runI rfl _ _ 58 58 rfl _ _ (by simp [Act.eval, Act.put]) (by simp [Act.eval, Act.put]) (cp1 _ _ _) ?_)
  go_wp2_with (at_builtin; refine wpList_copy_runI _ rfl _ _ 58 58 rfl _ _ rfl rfl (cp2 _ _) ?_)
  go_ret
  exact ⟨_, rfl, HP.out⟩
set_option maxHeartbeats 4000000 in
set_option maxRecDepth 100000 in
theorem insert_new {w : World} {base b n c vb : Nat} {q : Option Addr} {d : List (Option Addr)} (h : OwnE EP w base (.slice (some ⟨b, 0, none⟩) n c) d) (hn : 0 < n) (hc : n = c) (hsz : n ≤ 1000) (hbase : base ≤ w.heap.size) (hv : w.heap[vb]? = some (.cells #[.pointer q] 62 (0, 0))) :
    Calls Tryd.prog 26 #[.slice (some ⟨b, 0, none⟩) n c, .int .i64 0, .slice (some ⟨vb, 0, none⟩) 1 1] w fun e w' => ∃ v', e = .returned v' ∧ InsP w base (.slice (some ⟨b, 0, none⟩) n c) q d w' v' := by
  subst hc
  obtain ⟨cur, rest, hl, _, hg, hnc, hm, hs, ht⟩ := h.rest
  obtain ⟨i0, hi0, hz0, hzs, hzb⟩ := EP.infoE
  have hi0 : Tryd.prog.info? 62 = some i0 := hi0
  have hzs : i0.size = 1 := hzs
  have hzb : i0.bytes = 8 := hzb
  have hz0 : i0.zero = some (.pointer none) := hz0
  have hfl : (EP.flat d).length = n := by rw [El.flat_len, hl]; exact Nat.mul_one n
  have hblt : b < w.heap.size := (Array.getElem?_eq_some_iff.1 hg).1
  have hvlt : vb < w.heap.size := (Array.getElem?_eq_some_iff.1 hv).1
  have hold : (Builtin.firstCells i0.size 0 (.slice (some ⟨b, 0, none⟩) 0 n)).run Tryd.prog w.drew = .ok ([] : List Value).toArray w.drew := by
    rw [hzs]
    exact run_firstCells_some w.drew 1 0 ⟨b, 0, none⟩ 0 n [] rfl (fun j v hj => by simp at hj)
  obtain ⟨G, hG⟩ : ∃ G, G = grownCap w (n + 1) n 62 := ⟨_, rfl⟩
  obtain ⟨ROW, hROW⟩ : ∃ ROW : Array Value, ROW = ([] : List Value).toArray ++ Builtin.zeroCells (Value.pointer none).cells (n + 1) ++ Builtin.zeroCells (Value.pointer none).cells (G - (n + 1)) := ⟨_, rfl⟩
  have happ : ∀ ty, (Builtin.append_ #[58, 3] ty #[.slice (some ⟨b, 0, none⟩) 0 n, .int .i64 ((n : Int) + 1)]).run Tryd.prog w = .ok (.slice (some ⟨w.heap.size, 0, none⟩) (n + 1) G) (w.drew.alloc (.cells ROW 62)) := fun ty => by
    have h := Lib.run_append_grow_zeros w 58 3 ty 62 i0 _ .i64 .i64 EP.under Tryd.underlying3 hi0 hz0 (some ⟨b, 0, none⟩) 0 n [] hold (n + 1) (by omega) (by omega) (by omega) (by omega) (by rw [hzb]; omega) (by rw [hzb, Nat.zero_add]; exact growslice_fits (by omega) (by omega))
    rw [Nat.zero_add, ← hG, ← hROW] at h
    rw [show ((n : Int) + 1) = ((n + 1 : Nat) : Int) by omega]
    exact h
  have hGn : n + 1 ≤ G := by rw [hG]; exact grownCap_ge w _ _ _
  have hGm : G ≤ maxLen := by rw [hG]; exact grownCap_le_maxLen w (n + 1) n _ (by unfold maxLen; omega)
  have hRs : ROW.size = G := by
    rw [hROW]
    simp [Builtin.zeroCells, Value.cells]
    omega
  -- the new row, written twice
  obtain ⟨W1, hW1⟩ : ∃ W1, W1 = w.drew.alloc (.cells ROW 62) := ⟨_, rfl⟩
  have g1 : W1.heap[w.heap.size]? = some (.cells ROW 62 (0, 0)) := by rw [hW1]; exact heap_alloc_new w.drew _
  have o1 : ∀ k, k < w.heap.size → W1.heap[k]? = w.heap[k]? := fun k hk => by rw [hW1]; exact Below.heap_alloc w.drew _ k hk
  have hRl : ROW.toList.length = G := by rw [Array.length_toList, hRs]
  obtain ⟨r0, r1, hr⟩ : ∃ a r, ROW.toList = a :: r := List.exists_cons_of_length_pos (by omega)
  obtain ⟨c1, g2, t2⟩ := heap_stretch [.pointer q] [] [r0] r1 W1 ROW g1 (by rw [hr]; rfl) rfl
  have hr1 : r1.length = G - 1 := by rw [hr] at hRl; simp at hRl; omega
  obtain ⟨c2, g3, t3⟩ := heap_stretch (EP.flat d) [.pointer q] (r1.take n) (r1.drop n) (W1.setCells w.heap.size 0 [.pointer q]) c1 g2 (by rw [t2, List.take_append_drop]; rfl) (by rw [hfl, List.length_take]; omega)
  have s2 : c1.size = G := by rw [← Array.length_toList, t2]; simp; omega
  have s3 : c2.size = G := by rw [← Array.length_toList, t3]; simp [hfl]; omega
  obtain ⟨W2, hW2⟩ : ∃ W2, W2 = W1.setCells w.heap.size 0 [.pointer q] := ⟨_, rfl⟩
  obtain ⟨W3, hW3⟩ : ∃ W3, W3 = (W2.drew).setCells w.heap.size 1 (EP.flat d) := ⟨_, rfl⟩
  have o2 : ∀ k, k < w.heap.size → W2.heap[k]? = w.heap[k]? := fun k hk => by
    rw [hW2]
    exact ((gb_setCells W1 w.heap.size 0 [.pointer q]).block k (by rw [hW1]; simp; omega) (by simp; omega)).trans (o1 k hk)
  have z2 : W2.heap.size = w.heap.size + 1 := by rw [hW2, size_cells, hW1]; simp
  have g3' : W3.heap[w.heap.size]? = some (.cells c2 62 (0, 0)) := by
    have e : (W2.drew.setCells w.heap.size 1 (EP.flat d)).heap = (W2.setCells w.heap.size 1 (EP.flat d)).heap := by
      have : ∀ (vs : List Value) (o : Nat) (x : World), (x.drew.setCells w.heap.size o vs).heap = (x.setCells w.heap.size o vs).heap := by
        intro vs
        induction vs with
        | nil => intro o x; rfl
        | cons v r ih => intro o x; exact ih (o + 1) (x.setCell ⟨w.heap.size, o, none⟩ v)
      exact this _ _ _
    rw [hW3, e, hW2]; exact g3
  have cp1 : ∀ ty dc, (Builtin.copy_ #[58, 58] ty #[.slice (some ⟨w.heap.size, 0, none⟩) (n + 1) dc, .slice (some ⟨vb, 0, none⟩) 1 1]).run Tryd.prog W1 = .ok (goInt 1) W2 := fun ty dc => by
    rw [hW2]; exact run_copyP (cs := [.pointer q]) (cov_block g1 (by rw [hRs]; show 0 + 1 ≤ G; omega)) (lie_block (pre := []) (post := []) ((o1 vb hvlt).trans hv) rfl) (fun v hv' => by rw [List.mem_singleton.1 hv']; rfl) ty (n + 1) 1 dc 1 (by show 1 = _; simp only [Nat.min_def]; split <;> omega)
  have cp2 : ∀ ty dc sc, (Builtin.copy_ #[58, 58] ty #[.slice (some ⟨w.heap.size, 1, none⟩) n dc, .slice (some ⟨b, 0, none⟩) n sc]).run Tryd.prog W2.drew = .ok (goInt (EP.flat d).length) W3 := fun ty dc sc => by
    rw [hW3]; exact run_copyP (w := W2.drew) (cov_block (w := W2.drew) (b := w.heap.size) (cur := c1) (T := 62) (by rw [hW2]; exact g2) (by rw [s2, hfl]; omega)) (lie_block (w := W2.drew) (pre := []) (post := rest) ((o2 b hblt).trans hg) (by rw [ht]; rfl)) (EP.flat_cell d) ty n n dc sc (by rw [hfl]; simp only [Nat.min_def]; split <;> omega)
  have HP : Hid (InsP w base (.slice (some ⟨b, 0, none⟩) n n) q d W3 (.slice (some ⟨w.heap.size, 0, none⟩) (n + 1) G)) := by
    have k3 := gb_setCells W2.drew w.heap.size 1 (EP.flat d)
    have k2 := gb_setCells W1 w.heap.size 0 [.pointer q]
    refine ⟨OwnE.of_rest (rest := r1.drop n) (by simp [hl]) hbase g3' hGn hGm (by rw [s3]; exact (Nat.mul_one G).symm) (by rw [t3]; rfl), ⟨?_, ?_, ?_, ?_, fun k hk _ => ?_⟩, Or.inr rfl⟩
    · rw [hW3]; refine k3.os.trans ?_; rw [hW2]; refine k2.os.trans ?_; rw [hW1]; rfl
    · rw [hW3]; refine k3.tape.trans ?_; rw [hW2]; refine k2.tape.trans ?_; rw [hW1]; rfl
    · rw [hW3]; refine k3.output.trans ?_; rw [hW2]; refine k2.output.trans ?_; rw [hW1]; rfl
    · rw [hW3, size_cells]; show _ ≤ W2.heap.size; omega
    · rw [hW3]; exact (k3.block k (by show k < W2.heap.size; omega) (by simp; omega)).trans (o2 k hk)
  have hz2 : ¬ ((0 : Int) = (n : Int)) := by omega
  have hz3 : ¬ n = 0 := by omega
  have hz4 : (n : Int) < (n : Int) + 1 := by omega
  have hz5 : ¬ G = 1 := by omega
  have hz6 : ¬ n = 0 := by omega
  have hz7 : ¬ G = 0 := by omega
  have hw1 : IntKind.i64.wrap 1 = 1 := by rw [IntKind.wrap_i64]; omega
  have hz8 : (1 : Int) ≤ (n : Int) + 1 := by omega
  have hz9 : (0 : Int) ≤ (n : Int) + 1 := by omega
  have hG63 : G ≤ 9223372036854775807 := by unfold maxLen at hGm; omega
  rw [← hW1] at happ
  clear g1 o1 g2 t2 g3 t3 s2 s3 o2 z2 g3' hW1 hW2 hW3 hRs hRl hr hr1 hGm hROW hG hold h ht hs hm hg hv hi0 hz0 hzs hzb
  go_enter Tryd.func26, Tryd.ntmps26
  go_wp2_with (first | (at_builtin; refine Lib.wpList_append_run _ rfl _ _ _ _ rfl _ _ rfl rfl _ _ (happ _) ?_) | (at_builtin; refine wpList_copy_runI _ rfl _ _ 58 58 rfl _ _ rfl rfl (cp1 _ _) ?_))
  go_region_law (refine step_copy_runI rfl _ _ 58 58 rfl _ _ (by simp [Act.eval, Act.put]) (by simp [Act.eval, Act.put]) (cp2 _ _ _) ?_)
  go_wp2
  go_ret
  exact ⟨_, rfl, HP.out⟩
set_option maxHeartbeats 4000000 in
theorem insert_first {w : World} {base vb : Nat} {v : Value} {q : Option Addr} (h : OwnE EP w base v []) (hbase : base ≤ w.heap.size) (hv : w.heap[vb]? = some (.cells #[.pointer q] 62 (0, 0))) :
    Calls Tryd.prog 26 #[v, .int .i64 0, .slice (some ⟨vb, 0, none⟩) 1 1] w fun e w' => ∃ v', e = .returned v' ∧ InsP w base v q [] w' v' := by
  obtain ⟨p, c, rfl⟩ := h.form
  have hc : ∀ j u, (EP.enc q)[j]? = some u → w.cell? ((⟨vb, 0, none⟩ : Addr).add j) = some u := fun j u hu => by
    rw [addr_add]; exact lie_block (w := w) (pre := []) (post := []) hv rfl j u hu
  have HC := hid2 hc
  have HO := hid2 h
  have HB := hid2 hbase
  clear hc h hbase hv
  go_enter Tryd.func26, Tryd.ntmps26
  go_wp2_with (at_builtin; refine wpList_appendE EP rfl (.tmp 23) (.tmp 24) rfl base _ [] q ⟨vb, 0, none⟩ 1 rfl HO.out rfl HC.out (by simp) HB.out ?_; intro v1 w1 h1 h2 h3; have H1 := hid2 h1; have H2 := hid2 h2; have H3 := hid2 h3; clear h1 h2 h3)
  go_ret
  exact ⟨_, rfl, H1.out, H2.out, H3.out⟩
/-- slices.Insert of one pointer at the place 0. -/
theorem insert_any {w : World} {base vb : Nat} {v : Value} {q : Option Addr} {d : List (Option Addr)} (h : OwnE EP w base v d) (hsz : d.length ≤ 1000) (hbase : base ≤ w.heap.size) (hv : w.heap[vb]? = some (.cells #[.pointer q] 62 (0, 0))) (hvb : v.ownBlock ≠ some vb) :
    Calls Tryd.prog 26 #[v, .int .i64 0, .slice (some ⟨vb, 0, none⟩) 1 1] w fun e w' => ∃ v', e = .returned v' ∧ InsP w base v q d w' v' := by
  rcases Nat.eq_zero_or_pos d.length with h0 | h0
  · have e := List.eq_nil_of_length_eq_zero h0
    subst e
    exact insert_first h hbase hv
  · obtain ⟨g, cp, rfl, _, hcp, _⟩ := h.some rfl h0
    rcases Nat.lt_or_ge d.length cp with hr | hr
    · exact insert_room h h0 hr hv (fun e => hvb (by rw [e]; rfl))
    · exact insert_new h h0 (by omega) hsz hbase hv
#print axioms insert_any
end Go.Proofs.YtdpfijhkbhmkgaaDoor
