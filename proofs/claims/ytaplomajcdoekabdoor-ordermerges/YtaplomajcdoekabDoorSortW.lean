/-
  order.Sort: the items by their keys, and what has one key stays in its order; nothing that was there is changed.
-/
import Derived.Test.YtaplomajcdoekabDoorStabW
import Derived.Test.YtaplomajcdoekabDoorRd
import Derived.OwnWalk
import Derived.Laws.IdiomCopy
namespace Go.Proofs.YtaplomajcdoekabDoor
open Go.RowKit Go.Sort Go.Proofs

/-! ### copy at elements of k cells -/
theorem run_copyK {P : Program} (w : World) (dT sT ty elem : TypeId) (k b o dLen dCap : Nat) (a : Addr) (sLen sCap : Nat) (cs : List Value)
    (hu : P.underlying dT = some (.slice elem)) (hs : (P.info? elem).map (·.size) = some k) (hn : cs.length = Nat.min sLen dLen * k)
    (hsrc : ∀ j v, cs[j]? = some v → w.cell? (a.add j) = some v) (hc : ∀ j, j < cs.length → (w.cell? ⟨b, o + j, none⟩).isSome = true) (hf : ∀ j, j < cs.length → w.frozen? ⟨b, o + j, none⟩ = false) (h1 : ∀ v ∈ cs, v.oneCell' = true) :
    (Builtin.copy_ #[dT, sT] ty #[.slice (some ⟨b, o, none⟩) dLen dCap, .slice (some a) sLen sCap]).run P w = .ok (goInt (Nat.min sLen dLen)) (w.setCells b o cs) := by
  have hl := run_loadCells_list (P := P) w a cs hsrc
  have hst := run_storeCells_cells (P := P) b o cs 0 w (by simpa using hc) (by simpa using hf) h1
  cases hq : P.info? elem with
  | none => simp [hq] at hs
  | some i =>
    have hi : i.size = k := by simpa [hq] using hs
    simp [Builtin.copy_, run_underlying hu, Builtin.lenOf, Builtin.firstCells, sizeOf, typeInfo, hq, hi, ← hn, hl, hst]
theorem run_copyK_none {P : Program} (w : World) (dT sT ty elem : TypeId) (k : Nat) (d a : Option Addr) (dLen dCap sLen sCap : Nat) (hu : P.underlying dT = some (.slice elem)) (hs : (P.info? elem).map (·.size) = some k) (hn : Nat.min sLen dLen = 0) :
    (Builtin.copy_ #[dT, sT] ty #[.slice d dLen dCap, .slice a sLen sCap]).run P w = .ok (goInt 0) w := by
  cases hq : P.info? elem with
  | none => simp [hq] at hs
  | some i =>
    have hl : ∀ (x : Addr), (loadCells x 0).run P w = .ok #[] w := fun x => by simpa using run_loadCells_list (P := P) w x [] (by simp)
    cases d <;> cases a <;> simp [Builtin.copy_, run_underlying hu, Builtin.lenOf, Builtin.firstCells, sizeOf, typeInfo, hq, hn, storeCells, hl]
theorem wpList_copyK {P : Program} {w : World} {ops : Array Oper} {rest : List Oper} {o : Oper} {a : Act} {Q : Exit → Act → World → Prop} (hgd : o.guard = none) (d s : Operand) (dT sT : TypeId)
    (ho : o.op = .call { callee := .builtin .copy, args := #[d, s], argTypes := #[dT, sT] }) (elem : TypeId) (hu : P.underlying dT = some (.slice elem)) (k : Nat) (hsz : (P.info? elem).map (·.size) = some k)
    (g off dLen dCap : Nat) (ad : Addr) (sLen sCap : Nat) (hd : a.eval d = .slice (some ⟨g, off, none⟩) dLen dCap) (hs : a.eval s = .slice (some ad) sLen sCap)
    (cs : List Value) (hn : cs.length = Nat.min sLen dLen * k)
    (hsrc : ∀ j v, cs[j]? = some v → w.cell? (ad.add j) = some v) (hc : ∀ j, j < cs.length → (w.cell? ⟨g, off + j, none⟩).isSome = true) (hf : ∀ j, j < cs.length → w.frozen? ⟨g, off + j, none⟩ = false) (h1 : ∀ v ∈ cs, v.oneCell' = true)
    (h : wpList P ops Q rest (a.put o.dst (goInt (Nat.min sLen dLen))) (w.setCells g off cs)) : wpList P ops Q (o :: rest) a w := by
  refine wpList_plain hgd fun K hK => ?_
  have hrun := run_copyK (P := P) w dT sT o.type elem k g off dLen dCap ad sLen sCap cs hu hsz hn hsrc hc hf h1
  unfold Oper.wp
  simp [execOp, ho, resolve, invoke, builtin, hd, hs, hrun, Result.andThen]
  exact hK _ _ h
theorem wpList_copyK_none {P : Program} {w : World} {ops : Array Oper} {rest : List Oper} {o : Oper} {a : Act} {Q : Exit → Act → World → Prop} (hgd : o.guard = none) (d s : Operand) (dT sT : TypeId)
    (ho : o.op = .call { callee := .builtin .copy, args := #[d, s], argTypes := #[dT, sT] }) (elem : TypeId) (hu : P.underlying dT = some (.slice elem)) (k : Nat) (hsz : (P.info? elem).map (·.size) = some k)
    (dp sp : Option Addr) (dLen dCap sLen sCap : Nat) (hd : a.eval d = .slice dp dLen dCap) (hs : a.eval s = .slice sp sLen sCap) (hn : Nat.min sLen dLen = 0)
    (h : wpList P ops Q rest (a.put o.dst (goInt 0)) w) : wpList P ops Q (o :: rest) a w := by
  refine wpList_plain hgd fun K hK => ?_
  have hrun := run_copyK_none (P := P) w dT sT o.type elem k dp sp dLen dCap sLen sCap hu hsz hn
  unfold Oper.wp
  simp [execOp, ho, resolve, invoke, builtin, hd, hs, hrun, Result.andThen]
  exact hK _ _ h

/-! ### rows of items, flat -/
theorem flatI_get (xs : Array (Int × Int)) (t : Nat) (h : t < xs.size * 2) : (flatK encI 2 xs)[t]! = if t % 2 = 0 then .int .i64 xs[t / 2]!.1 else .int .i64 xs[t / 2]!.2 := by
  rw [get_flatK _ _ _ _ h]
  unfold encI
  split
  · rename_i e; rw [e]; rfl
  · rename_i e; rw [show t % 2 = 1 by omega]; rfl
theorem RdAt.flat {w : World} {blk off : Nat} {xs : Array (Int × Int)} (h : RdAt w blk off xs) (t : Nat) (ht : t < xs.size * 2) : w.cell? ⟨blk, off + t, none⟩ = some (flatK encI 2 xs)[t]! := by
  rw [flatI_get xs t ht]
  have := h.2 (t / 2) (by omega)
  by_cases c : t % 2 = 0
  · rw [if_pos c, show off + t = off + t / 2 * 2 by omega]; exact this.1
  · rw [if_neg c, show off + t = off + t / 2 * 2 + 1 by omega]; exact this.2
theorem flatI_one (xs : Array (Int × Int)) : ∀ v ∈ (flatK encI 2 xs).toList, v.oneCell' = true := by
  intro v hv
  obtain ⟨t, ht, rfl⟩ := List.getElem_of_mem hv
  have ht' : t < xs.size * 2 := by simpa using ht
  have e : (flatK encI 2 xs).toList[t] = (flatK encI 2 xs)[t]! := by rw [getElem!_pos _ t (by simpa using ht'), Array.getElem_toList]
  rw [e, flatI_get xs t ht']
  split <;> rfl
theorem holdsK_of_copy {w : World} {g : Nat} {xs : Array (Int × Int)} (hc : ∀ j, j < xs.size * 2 → (w.cell? ⟨g, j, none⟩).isSome = true) (hf : ∀ j, j < xs.size * 2 → w.frozen? ⟨g, j, none⟩ = false) :
    HoldsK encI 2 (w.setCells g 0 (flatK encI 2 xs).toList) g 0 xs := by
  intro j hj
  have hj' : j < xs.size * 2 := by simpa using hj
  refine ⟨?_, by rw [World.frozen?_setCells]; simpa using hf j hj'⟩
  have := World.cell?_setCells_in g (flatK encI 2 xs).toList 0 w (fun i hi => by simpa using hc i (by simpa using hi)) j (by simpa using hj')
  rw [this, Array.getElem_toList, getElem!_pos _ j hj]
  rfl
theorem below_setCells {B g : Nat} {w0 : World} (hBg : B ≤ g) : ∀ (vs : List Value) (o : Nat) (w : World), Below B w0 w → Below B w0 (w.setCells g o vs)
  | [], _, _, h => h
  | v :: r, o, w, h => by rw [World.setCells]; exact below_setCells hBg r (o + 1) _ (h.setCell (p := ⟨g, o, none⟩) hBg v)
theorem At.below {w0 W : World} {blk off N B : Nat} {d : Array (Int × Int)} (h : At w0 blk off N d W) (hB : B ≤ blk) : Below B w0 W := by
  obtain ⟨n, os, rfl⟩ := h.sw
  refine ⟨rfl, rfl, rfl, by unfold sortWorldK; rw [size_grow, size_putRowK]; exact Nat.le_add_right _ _, fun k hk => ?_⟩
  have hk2 : k < w0.heap.size := by have := h.hblk; omega
  unfold sortWorldK
  show ((putRowK encI 2 (Sort.ahead w0 n) blk off d).heap ++ os)[k]? = _
  rw [Array.getElem?_append_left (by rw [size_putRowK]; exact hk2)]
  simp only [putRowK, putRow, mapBlock, Array.getElem?_modify]
  rw [if_neg (by omega)]
  rfl

/-- ys is xs by keys, and what has one key stays in its order. -/
structure Sorts (xs ys : Array (Int × Int)) : Prop where
  size : ys.size = xs.size
  st : StEq xs.toList ys.toList
  srt : Srt 0 ys.size ys

theorem errV_zero : errV 0 = .nilIface := rfl
theorem errV_pos {k : Nat} (h : k ≠ 0) : errV k = .iface 38 (.int .i64 k) := if_neg h
theorem wrong_le {xs : Array (Int × Int)} (h : wrong xs = 0) : xs.size ≤ 60 := by
  unfold wrong at h
  by_cases c : 60 < xs.size
  · rw [if_pos c] at h; omega
  · omega

set_option maxHeartbeats 2000000 in
theorem sort_bad (v : Value) (xs : Array (Int × Int)) (w : World) (h : Sl w v xs) (hbig : xs.size ≤ 9223372036854775807) (k : Nat) (hk : wrong xs = k) (h0 : k ≠ 0) :
    Calls Tryd.prog 5 #[v] w fun e w' => e = .returned (.tuple #[.slice none 0 0, .iface 38 (.int .i64 k)]) ∧ Below w.heap.size w w' := by
  have hcon := check_any v xs w h hbig
  rw [hk, errV_pos h0] at hcon
  obtain ⟨p, cap, rfl, _⟩ := h
  clear hk h0
  go_enter Tryd.func5, Tryd.ntmps5
  go_wp2_with (go_at_call 11; refine hcon.mono ?_; rintro e w' ⟨rfl, hb⟩)
  go_ret2
  exact ⟨rfl, hb⟩
theorem info_item : (Tryd.prog.info? 34).map (fun i => (i.zero, i.size, i.bytes)) = some (some (.agg #[.int .i64 0, .int .i64 0]), 2, 16) := by kernel_rfl
theorem size_item : (Tryd.prog.info? 34).map (·.size) = some 2 := by kernel_rfl

theorem owned_cells {w : World} {base n g : Nat} {L : List Value} (h : w.ownsRow base 34 2 (.slice (some ⟨g, 0, none⟩) n n) n L) :
    g < w.heap.size ∧ (∀ j, j < n * 2 → (w.cell? ⟨g, j, none⟩).isSome = true) ∧ ∀ j, j < n * 2 → w.frozen? ⟨g, j, none⟩ = false := by
  obtain ⟨_, ⟨h, _⟩ | ⟨g', cap, cur, e, _, hg, _, _, hs, _⟩⟩ := h
  · cases h
  · simp only [Value.slice.injEq, Option.some.injEq, Addr.mk.injEq] at e
    obtain ⟨⟨rfl, _⟩, _, rfl⟩ := e
    have hlt : g < w.heap.size := (Array.getElem?_eq_some_iff.1 hg).1
    refine ⟨hlt, fun j hj => ?_, fun j hj => ?_⟩
    · simp [World.cell?, hg, show j < cur.size by omega]
    · simp [World.frozen?, hg]


/-- make and copy: a row of one's own that holds the items. -/
theorem copied (w w1 w2 : World) (N cap blk off : Nat) (xs : Array (Int × Int)) (L : List Value) (hb : Below w.heap.size w w1) (hr : RdAt w blk off xs) (hN : xs.size = N)
    (hown : w2.ownsRow w.heap.size 34 2 (.slice (some ⟨w1.heap.size, 0, none⟩) N N) N L) (hgr : w1.grownBy w2 none) :
    ∃ w3, (Builtin.copy_ #[22, 22] 3 #[.slice (some ⟨w1.heap.size, 0, none⟩) N N, .slice (some ⟨blk, off, none⟩) N cap]).run Tryd.prog w2 = .ok (.int .i64 N) w3 ∧
      At w3 w1.heap.size 0 N xs w3 ∧ Below w.heap.size w w3 := by
  subst hN
  obtain ⟨hg2, hce, hfr⟩ := owned_cells hown
  have hb2 : Below w.heap.size w w2 := hb.grown hgr hb.size (fun k e => by cases e)
  have hrd := hr.below hb2 hr.1
  refine ⟨w2.setCells w1.heap.size 0 (flatK encI 2 xs).toList, ?_, At.start (holdsK_of_copy hce hfr) (by rw [size_setCells]; exact hg2), below_setCells hb.size _ _ _ hb2⟩
  have := run_copyK (P := Tryd.prog) w2 22 22 3 34 2 w1.heap.size 0 xs.size xs.size ⟨blk, off, none⟩ xs.size cap (flatK encI 2 xs).toList Tryd.underlying22 size_item (by simp)
    (fun j v hv => by
      obtain ⟨hj, rfl⟩ := List.getElem?_eq_some_iff.1 hv
      have hj' : j < xs.size * 2 := by simpa using hj
      rw [show ((⟨blk, off, none⟩ : Addr).add j) = ⟨blk, off + j, none⟩ by unfold Addr.add; split <;> simp_all, hrd.flat j hj', Array.getElem_toList, getElem!_pos _ j (by simpa using hj')])
    (fun j hj => by simpa using hce j (by simpa using hj)) (fun j hj => by simpa using hfr j (by simpa using hj)) (flatI_one xs)
  simpa [goInt] using this
theorem copied_none (w w1 w2 : World) (cap : Nat) (p : Option Addr) (L : List Value) (hb : Below w.heap.size w w1)
    (hown : w2.ownsRow w.heap.size 34 2 (.slice (some ⟨w1.heap.size, 0, none⟩) 0 0) 0 L) (hgr : w1.grownBy w2 none) :
    (Builtin.copy_ #[22, 22] 3 #[.slice (some ⟨w1.heap.size, 0, none⟩) 0 0, .slice p 0 cap]).run Tryd.prog w2 = .ok (.int .i64 0) w2 ∧
      At w2 w1.heap.size 0 0 #[] w2 ∧ Below w.heap.size w w2 := by
  obtain ⟨hg2, _, _⟩ := owned_cells hown
  refine ⟨?_, At.start (d := #[]) (fun j hj => by simp at hj) hg2, hb.grown hgr hb.size (fun k e => by cases e)⟩
  have := run_copyK_none (P := Tryd.prog) w2 22 22 3 34 2 (some ⟨w1.heap.size, 0, none⟩) p 0 0 0 cap Tryd.underlying22 size_item rfl
  simpa [goInt] using this

set_option maxHeartbeats 4000000 in
theorem sort_good (v : Value) (xs : Array (Int × Int)) (w : World) (h : Sl w v xs) (hk : wrong xs = 0) :
    Calls Tryd.prog 5 #[v] w fun e w' => ∃ g ys, e = .returned (.tuple #[.slice (some ⟨g, 0, none⟩) xs.size xs.size, .nilIface]) ∧ RdAt w' g 0 ys ∧ Sorts xs ys ∧ Below w.heap.size w w' := by
  have h60 := wrong_le hk
  have hcon := check_any v xs w h (by omega)
  rw [hk, errV_zero] at hcon
  obtain ⟨p, cap, rfl, hcap, hpp⟩ := h
  clear hk hcap
  obtain ⟨N, hN⟩ : ∃ N, xs.size = N := ⟨_, rfl⟩
  rw [hN] at hcon h60 hpp ⊢
  have HN : Hid _ := hN
  clear hN
  obtain ⟨i0, hi, hz0, hz1, hz2⟩ := info_parts info_item
  have hmax : N ≤ maxLen := by unfold maxLen; omega
  rcases hpp with rfl | ⟨blk, off, rfl, hr⟩
  · go_enter Tryd.func5, Tryd.ntmps5
    go_wp2_with (first
      | (go_at_call 11; refine hcon.mono ?_; rintro e w1 ⟨rfl, hb⟩)
      | (at_make; refine wpList_make_full _ rfl (.tmp 12) (.tmp 12) 22 rfl w.heap.size 34 i0 (.agg #[.int .i64 0, .int .i64 0]) 2 Tryd.underlying22 hi hz0 hz1 .i64 .i64 _ _ 0 rfl rfl rfl rfl (by rw [hz2]; omega) hmax hb.size ?_; intro w2 hown hgr; obtain ⟨hrun, HA, hb3⟩ := copied_none w w1 w2 cap p _ hb hown hgr; clear hown hgr))
    refine (sortStable_any _ _ 0 0 0 #[] _ HA (by omega)).mono ?_
    rintro e w3 ⟨rfl, d', M, S, H3⟩
    go_wp2
    go_ret2
    have e0 : xs = #[] := Array.eq_empty_of_size_eq_zero HN.out
    refine ⟨_, #[], rfl, ⟨H3.lt, fun i hi => absurd hi (Nat.not_lt_zero _)⟩, ⟨by rw [e0], fun k => by rw [e0], fun i j _ _ h3 => absurd h3 (Nat.not_lt_zero _)⟩, hb3.trans (H3.below hb.size)⟩
  · have HR : Aside _ := hr
    clear hr
    go_enter Tryd.func5, Tryd.ntmps5
    go_wp2_with (first
      | (go_at_call 11; refine hcon.mono ?_; rintro e w1 ⟨rfl, hb⟩)
      | (at_make; refine wpList_make_full _ rfl (.tmp 12) (.tmp 12) 22 rfl w.heap.size 34 i0 (.agg #[.int .i64 0, .int .i64 0]) 2 Tryd.underlying22 hi hz0 hz1 .i64 .i64 _ _ N rfl rfl rfl rfl (by rw [hz2]; omega) hmax hb.size ?_; intro w2 hown hgr; obtain ⟨w3, hrun, HA, hb3⟩ := copied w w1 w2 N cap blk off xs _ hb HR.out HN.out hown hgr; clear hown hgr))
    refine (sortStable_any _ _ 0 N N xs _ HA h60).mono ?_
    rintro e w4 ⟨rfl, d', M, S, H4⟩
    have MM : Aside _ := M
    have SS : Aside _ := S
    clear M S
    go_wp2
    go_ret2
    exact ⟨_, d', rfl, H4.rd, ⟨MM.out.size, MM.out.st, by rw [H4.size]; exact SS.out⟩, hb3.trans (H4.below hb.size)⟩
#print axioms sort_good
end Go.Proofs.YtaplomajcdoekabDoor
