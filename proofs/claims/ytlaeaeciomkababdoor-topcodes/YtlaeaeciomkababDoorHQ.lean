/-
  Queues of package heap in memory, of whatever elements: their cells, rows of elements exchanged, what a push leaves.
-/
import Derived.Test.YtlaeaeciomkababDoorSoD
import Derived.Test.YtlaeaeciomkababDoorHAbove
import Derived.Test.YtlaeaeciomkababDoorHide
import Derived.Test.YtlaeaeciomkababDoorChg
namespace Go.Proofs.YtlaeaeciomkababDoor
open Go.RowKit Go.Sort Go.Proofs

theorem lt_of_cellQ {w : World} {b o : Nat} {u : Value} (h : w.cell? ⟨b, o, none⟩ = some u) : b < w.heap.size := by
  rcases Nat.lt_or_ge b w.heap.size with q | q
  · exact q
  · simp [World.cell?, Array.getElem?_eq_none q] at h
section
variable {α : Type} {E : El Tryd.prog α}
theorem OwnE.setE {w : World} {base g n cap : Nat} {vs : List α} (h : OwnE E w base (.slice (Option.some ⟨g, 0, none⟩) n cap) vs) {i : Nat} (hi : i < n) (y : α) : OwnE E (w.setCells g (i * E.K) (E.enc y)) base (.slice (Option.some ⟨g, 0, none⟩) n cap) (vs.set i y) := by
  obtain ⟨hl, _, _⟩ := h.capBound
  have h1 := h.stretch (i := i) (zs := [y]) (by simp; omega)
  rw [El.flat_one] at h1
  have e2 : vs.take i ++ ([y] ++ vs.drop (i + [y].length)) = vs.set i y := by
    rw [List.set_eq_take_append_cons_drop, if_pos (by omega)]; rfl
  rw [e2] at h1
  exact h1
theorem OwnE.cellE {w : World} {base g n cap : Nat} {vs : List α} (h : OwnE E w base (.slice (Option.some ⟨g, 0, none⟩) n cap) vs) {i : Nat} {x : α} (hx : vs[i]? = Option.some x) {c : Nat} {v : Value} (hv : (E.enc x)[c]? = Option.some v) :
    w.cell? ⟨g, i * E.K + c, none⟩ = Option.some v ∧ w.frozen? ⟨g, i * E.K + c, none⟩ = false ∧ g < w.heap.size := by
  obtain ⟨hl, _, _⟩ := h.capBound
  have hi := (List.getElem?_eq_some_iff.1 hx).1
  obtain ⟨g', cp, e, _, _, hr, hf⟩ := h.some hl (by omega)
  simp only [Value.slice.injEq, Option.some.injEq, Addr.mk.injEq] at e
  obtain ⟨⟨rfl, _⟩, _⟩ := e
  have := hr.cell hx hv
  rw [Nat.zero_add] at this
  exact ⟨this, hf _, hr.1⟩
theorem own_grown {w : World} {base : Nat} {v : Value} {vs : List α} (h : OwnE E w base v vs) (n : Nat) (os : Array Obj) : OwnE E (grow (w.drewN n) os) base v vs :=
  h.below (below_grow (Below.refl _ w) (Nat.le_refl _) n os)
theorem mapE_at {β : Type} (v : Int × Int → β) (d : Array (Int × Int)) {i : Nat} (h : i < d.size) : (d.toList.map v)[i]? = some (v d[i]!) := by
  rw [getElem!_pos d i h]; simp [h]
theorem swp_mapE {β : Type} (v : Int × Int → β) (d : Array (Int × Int)) (i k : Nat) : (swp d i k).toList.map v = ((d.toList.map v).set i (v d[k]!)).set k (v d[i]!) := by
  unfold swp
  rw [Array.toList_setIfInBounds, Array.toList_setIfInBounds, List.map_set, List.map_set]

/-- All items are of a kind. -/
def AllP (P : Int × Int → Prop) (d : Array (Int × Int)) : Prop := ∀ x ∈ d.toList, P x
theorem AllP.at {P : Int × Int → Prop} {d : Array (Int × Int)} (h : AllP P d) {i : Nat} (hi : i < d.size) : P d[i]! := by
  rw [getElem!_pos d i hi]
  exact h _ (by simp)
theorem AllP.perm {P : Int × Int → Prop} {d e : Array (Int × Int)} (h : AllP P d) (p : e.toList.Perm d.toList) : AllP P e := fun x hx => h x (p.subset hx)
theorem AllP.swp {P : Int × Int → Prop} {d : Array (Int × Int)} (h : AllP P d) {i k : Nat} (hi : i < d.size) (hk : k < d.size) : AllP P (swp d i k) := h.perm (swp_perm d hi hk)
theorem AllP.push {P : Int × Int → Prop} {d : Array (Int × Int)} (h : AllP P d) {x : Int × Int} (hx : P x) : AllP P (d.push x) := fun y hy => by
  rw [Array.toList_push] at hy
  rcases List.mem_append.1 hy with z | z
  · exact h y z
  · rw [List.mem_singleton.1 z]; exact hx
theorem AllP.hpush {P : Int × Int → Prop} {d : Array (Int × Int)} (h : AllP P d) {x : Int × Int} (hx : P x) : AllP P (hpush d x) := fun y hy => by
  rcases List.mem_append.1 ((hpush_perm d x).subset hy) with z | z
  · exact h y z
  · rw [List.mem_singleton.1 z]; exact hx
theorem AllP.hpop {P : Int × Int → Prop} {d : Array (Int × Int)} (h : AllP P d) (h0 : 0 < d.size) : AllP P (hpop d) := fun y hy => h y ((hpop_perm h0).subset (List.mem_cons_of_mem _ hy))
theorem AllP.nil (P : Int × Int → Prop) : AllP P #[] := fun y hy => by simp at hy
theorem AllP.mono {P Q : Int × Int → Prop} {d : Array (Int × Int)} (h : AllP P d) (hq : ∀ x, P x → Q x) : AllP Q d := fun x hx => hq x (h x hx)

/-- The cells of a queue of type T that is told by the function K. -/
def QC (T : TypeId) (w : World) (qb K : Nat) (v : Value) : Prop := w.heap[qb]? = some (.cells #[.func (.func K) #[] #[], v] T (0, 0))
section
variable {T : TypeId} {w w' : World} {qb K : Nat} {v : Value}
theorem QC.lt (h : QC T w qb K v) : qb < w.heap.size := (Array.getElem?_eq_some_iff.1 h).1
theorem QC.cells (h : QC T w qb K v) : w.cell? ⟨qb, 0, none⟩ = some (.func (.func K) #[] #[]) ∧ w.cell? ⟨qb, 1, none⟩ = some v := by
  unfold QC at h
  simp [World.cell?, h]
theorem QC.fr (h : QC T w qb K v) (j : Nat) : w.frozen? ⟨qb, j, none⟩ = false := by
  unfold QC at h
  simp [World.frozen?, h]
theorem QC.kept (h : QC T w qb K v) (e : w'.heap[qb]? = w.heap[qb]?) : QC T w' qb K v := by unfold QC at *; rw [e]; exact h
theorem QC.put1 (h : QC T w qb K v) (u : Value) : QC T (w.setCell ⟨qb, 1, none⟩ u) qb K u := by
  have := heap_put (i := 1) h u
  simpa [QC] using this
end
theorem qc_new (T : TypeId) (w : World) (K : Nat) (v : Value) : QC T (w.alloc (.cells #[.func (.func K) #[] #[], v] T)) w.heap.size K v := by
  unfold QC World.alloc
  simp
theorem own_kept {w w' : World} {v : Value} {vs : List α} {F : Nat → Prop} (h : OwnE E w 0 v vs) (hc : Chg F w w') (hf : ∀ j ∈ v.ownBlock.toList, ¬ F j) : OwnE E w' 0 v vs := by
  cases hv : v.ownBlock with
  | none =>
    obtain ⟨e1, h0 | ⟨g, cap, cur, rfl, _⟩⟩ := h
    · exact ⟨e1, Or.inl h0⟩
    · simp [Value.ownBlock] at hv
  | some g =>
    have hg := (World.ownsRow.lt h g hv).2
    have hb := hc.block g hg (hf g (by simp [hv]))
    obtain ⟨e1, h0 | ⟨g', cap, cur, rfl, q1, q2, q3⟩⟩ := h
    · exact ⟨e1, Or.inl h0⟩
    · simp [Value.ownBlock] at hv
      subst hv
      exact ⟨e1, Or.inr ⟨g', cap, cur, rfl, q1, hb.trans q2, q3⟩⟩
theorem own_lt {w : World} {v : Value} {vs : List α} (h : OwnE E w 0 v vs) : ∀ j ∈ v.ownBlock.toList, j < w.heap.size := fun j hj => (World.ownsRow.lt h j (by simpa using hj)).2
theorem own_someE {w : World} {v : Value} {vs : List α} {n : Nat} (h : OwnE E w 0 v vs) (hl : vs.length = n) (hn : 0 < n) : ∃ g cp, v = .slice (some ⟨g, 0, none⟩) n cp ∧ n ≤ cp := by
  obtain ⟨g, cp, e, _, hc, _, _⟩ := h.some hl hn
  exact ⟨g, cp, e, hc⟩
variable (E) in
/-- A queue told by K: the elements that it holds, its blocks. -/
def QE (T : TypeId) (w : World) (qb K : Nat) (vs : List α) (f : List Nat) : Prop := ∃ v, QC T w qb K v ∧ OwnE E w 0 v vs ∧ f = qb :: v.ownBlock.toList
section
variable {T : TypeId} {w w' : World} {qb K : Nat} {vs : List α} {f : List Nat}
theorem QE.lt (h : QE E T w qb K vs f) : ∀ j ∈ f, j < w.heap.size := by
  obtain ⟨v, h1, h2, rfl⟩ := h
  intro j hj
  rcases List.mem_cons.1 hj with rfl | z
  · exact h1.lt
  · exact own_lt h2 j z
theorem QE.kept {F : Nat → Prop} (h : QE E T w qb K vs f) (hc : Chg F w w') (hf : ∀ j ∈ f, ¬ F j) : QE E T w' qb K vs f := by
  obtain ⟨v, h1, h2, rfl⟩ := h
  exact ⟨v, h1.kept (hc.block qb h1.lt (hf qb List.mem_cons_self)), own_kept h2 hc fun j z => hf j (List.mem_cons_of_mem _ z), rfl⟩
theorem QE.below (h : QE E T w qb K vs f) (hb : Below w.heap.size w w') : QE E T w' qb K vs f := h.kept (F := fun _ => False) (Chg.of_below hb) (fun _ _ q => q)
theorem QE.mem (h : QE E T w qb K vs f) : qb ∈ f := by
  obtain ⟨v, h1, h2, rfl⟩ := h
  exact List.mem_cons_self
end
/-- Behind the append, and the store. -/
structure PushE (E : El Tryd.prog α) (T : TypeId) (K : Nat) (w : World) (qb : Nat) (f : List Nat) (vs : List α) (g cap n : Nat) (w2 : World) : Prop where
  qb2 : QC T w2 qb K (.slice (some ⟨g, 0, none⟩) n cap)
  own : OwnE E w2 0 (.slice (some ⟨g, 0, none⟩) n cap) vs
  step : Step f [qb, g] w w2
  gb : g ∈ f ∨ w.heap.size ≤ g
theorem pushE_dn {T : TypeId} {K : Nat} {w w2 : World} {qb g cap n : Nat} {f : List Nat} {vs : List α} (h : PushE E T K w qb f vs g cap n w2) : PushE E T K w qb f vs g cap n w2.drew :=
  ⟨h.qb2, OwnE.drewN h.own 1, ⟨h.step.nodup, h.step.sub, h.step.chg.dn 1⟩, h.gb⟩
theorem push_midE {T : TypeId} {K : Nat} {w wA w1 : World} {qb : Nat} {v v1 : Value} {vs : List α} {c : α} (h1 : QC T w qb K v) (hf : (qb :: v.ownBlock.toList).Nodup) (hb : Below w.heap.size w wA) (a1 : OwnE E w1 0 v1 (vs ++ [c])) (a2 : wA.grownBy w1 v.ownBlock) (a3 : v1.ownBlock = v.ownBlock ∨ v1.ownBlock = some wA.heap.size) :
    QC T w1 qb K v ∧ ∃ g cap, v1 = .slice (some ⟨g, 0, none⟩) (vs.length + 1) cap ∧ PushE E T K w qb (qb :: v.ownBlock.toList) (vs ++ [c]) g cap (vs.length + 1) (w1.setCell ⟨qb, 1, none⟩ v1) := by
  have hA := hb.size
  have hqA : QC T wA qb K v := h1.kept (hb.block qb h1.lt)
  have hne : some qb ≠ v.ownBlock := fun e => (List.nodup_cons.1 hf).1 (by rw [← e]; simp)
  have hq1 : QC T w1 qb K v := hqA.kept (a2.block qb hqA.lt hne)
  obtain ⟨g, cap, rfl, hcp⟩ := own_someE a1 (n := vs.length + 1) (by simp) (Nat.succ_pos _)
  have hgg : g ∈ v.ownBlock.toList ∨ w.heap.size ≤ g := by
    rcases a3 with e | e
    · exact Or.inl (by rw [← e]; simp [Value.ownBlock])
    · right
      have : g = wA.heap.size := by simpa [Value.ownBlock] using e
      omega
  have hgq : g ≠ qb := by
    rintro rfl
    rcases hgg with e | e
    · exact (List.nodup_cons.1 hf).1 e
    · have := h1.lt; omega
  have ch1 : Chg (· ∈ qb :: v.ownBlock.toList) w w1 := (Chg.of_below hb).trans (Chg.of_grown (F := fun j => some j = v.ownBlock) a2 fun k e => e.symm) fun j e => Or.inl (List.mem_cons_of_mem _ (by rw [← e]; simp))
  have hgg' : g ∈ qb :: v.ownBlock.toList ∨ w.heap.size ≤ g := hgg.imp_left fun z => List.mem_cons_of_mem _ z
  refine ⟨hq1, g, cap, rfl, hq1.put1 _, own_kept a1 ((Chg.refl (· = qb) w1).setCell (p := ⟨qb, 1, none⟩) (Or.inl rfl) _) fun j z e => hgq (by
    have hj : j = g := by simp [Value.ownBlock] at z; omega
    rw [← hj]; exact e), ⟨?_, fun j z => ?_, ch1.setCell (p := ⟨qb, 1, none⟩) (Or.inl List.mem_cons_self) _⟩, hgg'⟩
  · exact List.nodup_cons.2 ⟨fun z => hgq (List.mem_singleton.1 z).symm, by simp⟩
  · rcases List.mem_cons.1 z with rfl | z
    · exact Or.inl List.mem_cons_self
    · obtain rfl := List.mem_singleton.1 z
      exact hgg'
/-- What Pop makes of the row. -/
theorem cutE {β : Type} (v : Int × Int → β) {d : Array (Int × Int)} {m : Nat} (hm : d.size = m + 1) : ((d.toList.map v).set 0 (v d[m]!)).take m ++ ((d.toList.map v).set 0 (v d[m]!)).drop (m + 1) = (if m = 0 then [] else (d.pop.setIfInBounds 0 d[m]!).toList.map v) := by
  have h1 : ((d.toList.map v).set 0 (v d[m]!)).drop (m + 1) = [] := List.drop_eq_nil_of_le (by simp [hm])
  rw [h1, List.append_nil]
  by_cases h0 : m = 0
  · rw [if_pos h0, h0]; rfl
  · rw [if_neg h0, Array.toList_setIfInBounds, Array.toList_pop, List.map_set, List.take_set]
    congr 1
    rw [List.dropLast_eq_take, List.map_take]
    congr 1
    simp [hm]
theorem pop_ofE {d : Array (Int × Int)} {m : Nat} (hm : d.size = m + 1) (h0 : m ≠ 0) : sinkA (d.pop.setIfInBounds 0 d[m]!) 0 = hpop d := by
  unfold hpop
  rw [if_neg (by omega), hm]; rfl
theorem pop_oneE {d : Array (Int × Int)} (hm : d.size = 1) : hpop d = #[] := by unfold hpop; rw [if_pos (by omega)]
theorem AllP.cut {P : Int × Int → Prop} {d : Array (Int × Int)} {m : Nat} (h : AllP P d) (hm : d.size = m + 1) : AllP P (d.pop.setIfInBounds 0 d[m]!) := fun x hx => by
  rw [Array.toList_setIfInBounds, Array.toList_pop] at hx
  rcases List.mem_or_eq_of_mem_set hx with z | z
  · exact h x (List.dropLast_subset _ z)
  · rw [z]; exact h.at (by omega)
end
/-- 'append(dst, x)' at elements of any make, at a step of a region that draws its order; where the new row lies. -/
theorem step_appendQ {P : Program} {α : Type} (E : El P α) {w : World} {ops : Array Oper} {o : Oper} {a : Act} {K : Act → World → Prop} {Q : Exit → Act → World → Prop} {R : Prop} (hgd : o.guard = none) (s x : Operand)
    (ho : o.op = .call { callee := .builtin .append, args := #[s, x], argTypes := #[E.S, E.S] }) (base : Nat) (v : Value) (ys : List α) (y : α) (ad : Addr) (c : Nat) (hs : a.eval s = v) (hown : OwnE E w base v ys)
    (hx : a.eval x = .slice (some ad) 1 c) (hc : ∀ j u, (E.enc y)[j]? = some u → w.cell? (ad.add j) = some u) (hsz : ys.length ≤ 100000) (hbase : base ≤ w.heap.size)
    (h : ∀ v' w', OwnE E w' base v' (ys ++ [y]) → w.grownBy w' v.ownBlock → (v'.ownBlock = v.ownBlock ∨ v'.ownBlock = some w.heap.size) → K (a.put o.dst v') w') :
    if Region.wanted o (yielded ops a.tmps) = true then Oper.wp P o a w K Q else R := by
  have hw : Region.wanted o (yielded ops a.tmps) = true := by simp [Region.wanted, hgd]
  rw [if_pos hw]
  obtain ⟨v', w', hr, h2, h3, h4⟩ := run_appendE w o.type base v ys [y] ad 1 c rfl hown (by rw [E.flat_one]; exact hc) (by omega) hbase
  unfold Oper.wp execOp
  simp only [ho, resolve, invoke, builtin, Sem.run_bind, Sem.run_pure, Result.andThen_ok, List.map_toArray, List.map_cons, List.map_nil, hs, hx, hr]
  exact h _ _ h2 h3 (h4 (by omega))
#print axioms step_appendQ
#print axioms push_midE
#print axioms cutE
end Go.Proofs.YtlaeaeciomkababDoor
