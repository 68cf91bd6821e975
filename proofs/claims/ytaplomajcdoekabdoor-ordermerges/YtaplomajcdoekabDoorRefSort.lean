/-
  The document's own sort: each item is put in behind those that are not above it.
-/
import Derived.Test.YtaplomajcdoekabDoorSMath
import Derived.Test.YtaplomajcdoekabDoorOwn
namespace Go.Proofs.YtaplomajcdoekabDoor
open Go.RowKit Go.Sort Go.Proofs

/-- An item put in. -/
theorem put_in {l os : List (Int × Int)} {x : Int × Int} {k : Nat} (h1 : StEq l os) (h2 : os.Pairwise (fun a b => a.1 ≤ b.1)) (hlo : ∀ t (ht : t < os.length), t < k → os[t].1 ≤ x.1) (hhi : ∀ (ht : k < os.length), x.1 < os[k].1) (hk : k ≤ os.length) :
    StEq (l ++ [x]) (os.take k ++ [x] ++ os.drop k) ∧ (os.take k ++ [x] ++ os.drop k).Pairwise (fun a b => a.1 ≤ b.1) := by
  have hA : ∀ y ∈ os.take k, y.1 ≤ x.1 := fun y hy => by
    obtain ⟨t, ht, rfl⟩ := List.getElem_of_mem hy
    rw [List.length_take] at ht
    rw [List.getElem_take]
    exact hlo t (by omega) (by omega)
  have hB : ∀ y ∈ os.drop k, x.1 < y.1 := fun y hy => by
    obtain ⟨t, ht, rfl⟩ := List.getElem_of_mem hy
    rw [List.length_drop] at ht
    rw [List.getElem_drop]
    have a := hhi (by omega)
    rcases Nat.eq_zero_or_pos t with c | c
    · subst c; exact a
    · have := (List.pairwise_iff_getElem.1 h2) k (k + t) (by omega) (by omega) (by omega)
      omega
  have hAB : ∀ y ∈ os.take k, ∀ z ∈ os.drop k, y.1 ≤ z.1 := fun y hy z hz => by have := hA y hy; have := hB z hz; omega
  have e : os = os.take k ++ os.drop k := (List.take_append_drop k os).symm
  have p1 : (os.take k).Pairwise (fun a b => a.1 ≤ b.1) := h2.sublist (List.take_sublist k os)
  have p2 : (os.drop k).Pairwise (fun a b => a.1 ≤ b.1) := h2.sublist (List.drop_sublist k os)
  refine ⟨fun q => ?_, ?_⟩
  · rw [List.filter_append, h1 q]
    conv => lhs; rw [e]
    simp only [List.filter_append]
    by_cases hq : x.1 = q
    · have : (os.drop k).filter (fun y => y.1 == q) = [] := by
        rw [List.filter_eq_nil_iff]
        intro y hy
        have := hB y hy
        simp only [beq_iff_eq]
        omega
      rw [this]; simp
    · have : [x].filter (fun y => y.1 == q) = [] := by simp [hq]
      rw [this]; simp
  · rw [List.pairwise_append, List.pairwise_append]
    refine ⟨⟨p1, List.pairwise_singleton _ _, fun a ha b hb => ?_⟩, p2, fun a ha b hb => ?_⟩
    · rw [List.mem_singleton] at hb; rw [hb]; exact hA a ha
    · rcases List.mem_append.1 ha with c | c
      · exact hAB a c b hb
      · rw [List.mem_singleton] at c; rw [c]; have := hB b hb; omega

theorem flatL_one (l : List (Int × Int)) : ∀ u ∈ flatL l, u.oneCell' = true := by
  intro u hu
  simp only [flatL, List.mem_flatMap] at hu
  obtain ⟨x, _, h⟩ := hu
  exact encI_one x u h
theorem flatL_append (a b : List (Int × Int)) : flatL (a ++ b) = flatL a ++ flatL b := by simp [flatL]
theorem OwnI.weak {w : World} {base base' : Nat} {v : Value} {ys : List (Int × Int)} (h : OwnI w base v ys) (hb : base' ≤ base) : OwnI w base' v ys := by
  obtain ⟨h1, h2 | ⟨g, cap, cur, e, hg, r⟩⟩ := h
  · exact ⟨h1, Or.inl h2⟩
  · exact ⟨h1, Or.inr ⟨g, cap, cur, e, by omega, r⟩⟩
/-- 'append(dst, src...)': a stretch of items behind an address. -/
theorem run_append_items (w : World) (ty : TypeId) (base : Nat) (v : Value) (ys zs : List (Int × Int)) (ad : Addr) (m c : Nat) (hm : zs.length = m) (hown : OwnI w base v ys) (hnews : ∀ j u, (flatL zs)[j]? = some u → w.cell? (ad.add j) = some u)
    (hsz : ys.length + m ≤ 1000000) (hbase : base ≤ w.heap.size) :
    ∃ v' w', (Builtin.append_ #[22, 22] ty #[v, .slice (some ad) m c]).run Tryd.prog w = .ok v' w' ∧ OwnI w' base v' (ys ++ zs) ∧ w.grownBy w' v.ownBlock := by
  subst hm
  obtain ⟨i0, hi, hz0, hz1, hz2⟩ := info_parts info_item'
  obtain ⟨v', w', hr, ho, hg, _⟩ := run_append_own (P := Tryd.prog) w base 22 ty 34 i0 (.agg #[.int .i64 0, .int .i64 0]) 2 16 Tryd.underlying22 hi hz0 hz1 hz2 rfl (by omega)
    v ys.length (flatL ys) hown ad zs.length c (flatL zs) (flatL_len zs) hnews (flatL_one zs) (by unfold maxLen; omega) (by omega) hbase
  exact ⟨v', w', hr, by unfold OwnI; rw [flatL_append, List.length_append]; exact ho, hg⟩
theorem wpList_append_items {w : World} {ops : Array Oper} {rest : List Oper} {o : Oper} {a : Act} {Q : Exit → Act → World → Prop} (hgd : o.guard = none) (s x : Operand)
    (ho : o.op = .call { callee := .builtin .append, args := #[s, x], argTypes := #[22, 22] }) (base : Nat) (v : Value) (ys zs : List (Int × Int)) (ad : Addr) (m c : Nat) (hs : a.eval s = v) (hx : a.eval x = .slice (some ad) m c) (hm : zs.length = m) (hown : OwnI w base v ys)
    (hnews : ∀ j u, (flatL zs)[j]? = some u → w.cell? (ad.add j) = some u) (hsz : ys.length + m ≤ 1000000) (hbase : base ≤ w.heap.size)
    (h : ∀ v' w', OwnI w' base v' (ys ++ zs) → w.grownBy w' v.ownBlock → wpList Tryd.prog ops Q rest (a.put o.dst v') w') : wpList Tryd.prog ops Q (o :: rest) a w := by
  refine wpList_plain hgd fun K hK => ?_
  obtain ⟨v', w', hr, h2, h3⟩ := run_append_items w o.type base v ys zs ad m c hm hown hnews hsz hbase
  unfold Oper.wp execOp
  simp only [ho, resolve, invoke, builtin, Sem.run_bind, Sem.run_pure, Result.andThen_ok, List.map_toArray, List.map_cons, List.map_nil, hs, hx, hr]
  exact hK _ _ (h v' w' h2 h3)
/-- 'append(dst, nil...)'. -/
theorem run_append_nothing (w : World) (ty : TypeId) (base : Nat) (v : Value) (ys : List (Int × Int)) (c : Nat) (hown : OwnI w base v ys) :
    (Builtin.append_ #[22, 22] ty #[v, .slice none 0 c]).run Tryd.prog w = .ok v w := by
  obtain ⟨i0, hi, hz0, hz1, hz2⟩ := info_parts info_item'
  obtain ⟨_, ⟨rfl, h0⟩ | ⟨g, cap, cur, rfl, _, _, hn, _⟩⟩ := hown
  · simp [Builtin.append_, run_underlying Tryd.underlying22, sizeOf, typeInfo, hi, Builtin.lenOf, Builtin.firstCells]
  · simp [Builtin.append_, run_underlying Tryd.underlying22, sizeOf, typeInfo, hi, Builtin.lenOf, Builtin.firstCells, hn, storeCells]
theorem wpList_append_nothing {w : World} {ops : Array Oper} {rest : List Oper} {o : Oper} {a : Act} {Q : Exit → Act → World → Prop} (hgd : o.guard = none) (s x : Operand)
    (ho : o.op = .call { callee := .builtin .append, args := #[s, x], argTypes := #[22, 22] }) (base : Nat) (v : Value) (ys : List (Int × Int)) (c : Nat) (hs : a.eval s = v) (hx : a.eval x = .slice none 0 c) (hown : OwnI w base v ys)
    (h : wpList Tryd.prog ops Q rest (a.put o.dst v) w) : wpList Tryd.prog ops Q (o :: rest) a w := by
  refine wpList_plain hgd fun K hK => ?_
  have hr := run_append_nothing w o.type base v ys c hown
  unfold Oper.wp execOp
  simp only [ho, resolve, invoke, builtin, Sem.run_bind, Sem.run_pure, Result.andThen_ok, List.map_toArray, List.map_cons, List.map_nil, hs, hx, hr]
  exact hK _ _ h
theorem own_some {w : World} {base n : Nat} {v : Value} {l : List (Int × Int)} (hl : l.length = n) (hn : 0 < n) (h : OwnI w base v l) :
    ∃ g cp, v = .slice (some ⟨g, 0, none⟩) n cp ∧ base ≤ g ∧ g < w.heap.size ∧ n ≤ cp ∧ ∀ j u, (flatL l)[j]? = some u → w.cell? ⟨g, j, none⟩ = some u := by
  subst hl
  obtain ⟨_, ⟨_, h0⟩ | ⟨g, cp, cur, rfl, hb, hg, hc, _⟩⟩ := id h
  · omega
  · refine ⟨g, cp, rfl, hb, (Array.getElem?_eq_some_iff.1 hg).1, hc, fun j u hu => ?_⟩
    have hj := (List.getElem?_eq_some_iff.1 hu).1
    rw [flatL_len] at hj
    exact (World.ownsRow.cellAt h j hj).trans hu
end Go.Proofs.YtaplomajcdoekabDoor
