/-
  append(dst, src...) at items, whatever the source is; what lies behind a slice's first item.
-/
import Derived.Test.YtlaeaeciomkababDoorOwn
namespace Go.Proofs.YtlaeaeciomkababDoor
open Go.RowKit Go.Sort Go.Proofs

theorem flatL_one (l : List (Int × Int)) : ∀ u ∈ flatL l, u.oneCell' = true := by
  intro u hu
  simp only [flatL, List.mem_flatMap] at hu
  obtain ⟨x, _, h⟩ := hu
  exact encI_one x u h
theorem flatL_append (a b : List (Int × Int)) : flatL (a ++ b) = flatL a ++ flatL b := by simp [flatL]
theorem OwnI.weak {w : World} {base base' : Nat} {v : Value} {ys : List (Int × Int)} (h : OwnI w base v ys) (hb : base' ≤ base) : OwnI w base' v ys := by
  obtain ⟨h1, h2 | ⟨g, cap, cur, e, hg, r⟩⟩ := h
  · exact ⟨h1, Or.inl h2⟩
  · exact ⟨h1, Or.inr ⟨g, cap, cur, e, by omega, r⟩⟩
/-- 'append(dst, src...)': a stretch of items behind an address. -/
theorem run_append_items (w : World) (ty : TypeId) (base : Nat) (v : Value) (ys zs : List (Int × Int)) (ad : Addr) (m c : Nat) (hm : zs.length = m) (hown : OwnI w base v ys) (hnews : ∀ j u, (flatL zs)[j]? = some u → w.cell? (ad.add j) = some u)
    (hsz : ys.length + m ≤ 1000000) (hbase : base ≤ w.heap.size) :
    ∃ v' w', (Builtin.append_ #[97, 97] ty #[v, .slice (some ad) m c]).run Tryd.prog w = .ok v' w' ∧ OwnI w' base v' (ys ++ zs) ∧ w.grownBy w' v.ownBlock := by
  subst hm
  obtain ⟨i0, hi, hz0, hz1, hz2⟩ := info_parts info_item'
  obtain ⟨v', w', hr, ho, hg, _⟩ := run_append_own (P := Tryd.prog) w base 97 ty 99 i0 (.agg #[.int .i64 0, .int .i64 0]) 2 16 Tryd.underlying97 hi hz0 hz1 hz2 rfl (by omega)
    v ys.length (flatL ys) hown ad zs.length c (flatL zs) (flatL_len zs) hnews (flatL_one zs) (by unfold maxLen; omega) (by omega) hbase
  exact ⟨v', w', hr, by unfold OwnI; rw [flatL_append, List.length_append]; exact ho, hg⟩
theorem wpList_append_items {w : World} {ops : Array Oper} {rest : List Oper} {o : Oper} {a : Act} {Q : Exit → Act → World → Prop} (hgd : o.guard = none) (s x : Operand)
    (ho : o.op = .call { callee := .builtin .append, args := #[s, x], argTypes := #[97, 97] }) (base : Nat) (v : Value) (ys zs : List (Int × Int)) (ad : Addr) (m c : Nat) (hs : a.eval s = v) (hx : a.eval x = .slice (some ad) m c) (hm : zs.length = m) (hown : OwnI w base v ys)
    (hnews : ∀ j u, (flatL zs)[j]? = some u → w.cell? (ad.add j) = some u) (hsz : ys.length + m ≤ 1000000) (hbase : base ≤ w.heap.size)
    (h : ∀ v' w', OwnI w' base v' (ys ++ zs) → w.grownBy w' v.ownBlock → wpList Tryd.prog ops Q rest (a.put o.dst v') w') : wpList Tryd.prog ops Q (o :: rest) a w := by
  refine wpList_plain hgd fun K hK => ?_
  obtain ⟨v', w', hr, h2, h3⟩ := run_append_items w o.type base v ys zs ad m c hm hown hnews hsz hbase
  unfold Oper.wp execOp
  simp only [ho, resolve, invoke, builtin, Sem.run_bind, Sem.run_pure, Result.andThen_ok, List.map_toArray, List.map_cons, List.map_nil, hs, hx, hr]
  exact hK _ _ (h v' w' h2 h3)
/-- 'append(dst, nil...)'. -/
theorem run_append_nothing (w : World) (ty : TypeId) (base : Nat) (v : Value) (ys : List (Int × Int)) (c : Nat) (hown : OwnI w base v ys) :
    (Builtin.append_ #[97, 97] ty #[v, .slice none 0 c]).run Tryd.prog w = .ok v w := by
  obtain ⟨i0, hi, hz0, hz1, hz2⟩ := info_parts info_item'
  obtain ⟨_, ⟨rfl, h0⟩ | ⟨g, cap, cur, rfl, _, _, hn, _⟩⟩ := hown
  · simp [Builtin.append_, run_underlying Tryd.underlying97, sizeOf, typeInfo, hi, Builtin.lenOf, Builtin.firstCells]
  · simp [Builtin.append_, run_underlying Tryd.underlying97, sizeOf, typeInfo, hi, Builtin.lenOf, Builtin.firstCells, hn, storeCells]
theorem wpList_append_nothing {w : World} {ops : Array Oper} {rest : List Oper} {o : Oper} {a : Act} {Q : Exit → Act → World → Prop} (hgd : o.guard = none) (s x : Operand)
    (ho : o.op = .call { callee := .builtin .append, args := #[s, x], argTypes := #[97, 97] }) (base : Nat) (v : Value) (ys : List (Int × Int)) (c : Nat) (hs : a.eval s = v) (hx : a.eval x = .slice none 0 c) (hown : OwnI w base v ys)
    (h : wpList Tryd.prog ops Q rest (a.put o.dst v) w) : wpList Tryd.prog ops Q (o :: rest) a w := by
  refine wpList_plain hgd fun K hK => ?_
  have hr := run_append_nothing w o.type base v ys c hown
  unfold Oper.wp execOp
  simp only [ho, resolve, invoke, builtin, Sem.run_bind, Sem.run_pure, Result.andThen_ok, List.map_toArray, List.map_cons, List.map_nil, hs, hx, hr]
  exact hK _ _ h
theorem own_some {w : World} {base n : Nat} {v : Value} {l : List (Int × Int)} (hl : l.length = n) (hn : 0 < n) (h : OwnI w base v l) :
    ∃ g cp, v = .slice (some ⟨g, 0, none⟩) n cp ∧ base ≤ g ∧ g < w.heap.size ∧ n ≤ cp ∧ ∀ j u, (flatL l)[j]? = some u → w.cell? ⟨g, j, none⟩ = some u := by
  subst hl
  obtain ⟨_, ⟨_, h0⟩ | ⟨g, cp, cur, rfl, hb, hg, hc, _⟩⟩ := id h
  · omega
  · refine ⟨g, cp, rfl, hb, (Array.getElem?_eq_some_iff.1 hg).1, hc, fun j u hu => ?_⟩
    have hj := (List.getElem?_eq_some_iff.1 hu).1
    rw [flatL_len] at hj
    exact (World.ownsRow.cellAt h j hj).trans hu

theorem RdAt.cellsL {w : World} {blk off : Nat} {xs : Array (Int × Int)} (h : RdAt w blk off xs) : ∀ j u, (flatL xs.toList)[j]? = some u → w.cell? ((⟨blk, off, none⟩ : Addr).add j) = some u := by
  intro j u hu
  rw [show ((⟨blk, off, none⟩ : Addr).add j) = ⟨blk, off + j, none⟩ by unfold Addr.add; split <;> simp_all]
  have hj : j < xs.size * 2 := by
    have := (List.getElem?_eq_some_iff.1 hu).1
    rw [flatL_len] at this
    simpa using this
  have hl : j / 2 < xs.toList.length := by simp; omega
  obtain ⟨g0, g1⟩ := flatL_get xs.toList (j / 2) hl
  obtain ⟨c0, c1⟩ := h.2 (j / 2) (by omega)
  rw [getD_toList xs (j / 2) hl] at g0 g1
  by_cases hp : j % 2 = 0
  · rw [show j / 2 * 2 = j by omega] at g0
    rw [hu] at g0
    rw [show off + j = off + j / 2 * 2 by omega, g0]; exact c0
  · rw [show j / 2 * 2 + 1 = j by omega] at g1
    rw [hu] at g1
    rw [show off + j = off + j / 2 * 2 + 1 by omega, g1]; exact c1

theorem run_append_sl (w : World) (ty : TypeId) (base : Nat) (v s : Value) (ys : List (Int × Int)) (zs : Array (Int × Int)) (hown : OwnI w base v ys) (hs : Sl w s zs) (hsz : ys.length + zs.size ≤ 1000000) (hbase : base ≤ w.heap.size) :
    ∃ v' w', (Builtin.append_ #[97, 97] ty #[v, s]).run Tryd.prog w = .ok v' w' ∧ OwnI w' base v' (ys ++ zs.toList) ∧ w.grownBy w' v.ownBlock := by
  obtain ⟨p, cap, rfl, hc, h0 | ⟨blk, off, rfl, hr⟩⟩ := hs
  · have e0 : zs = #[] := Array.eq_empty_of_size_eq_zero h0
    subst e0
    cases p with
    | none => exact ⟨v, w, by simpa using run_append_nothing w ty base v ys cap hown, by simpa using hown, World.grownBy.refl w _⟩
    | some ad =>
      obtain ⟨v', w', hr, h1, h2⟩ := run_append_items w ty base v ys [] ad 0 cap rfl hown (fun j u hu => by simp [flatL] at hu) (by simpa using hsz) hbase
      exact ⟨v', w', by simpa using hr, by simpa using h1, h2⟩
  · exact run_append_items w ty base v ys zs.toList ⟨blk, off, none⟩ zs.size cap (by simp) hown hr.cellsL hsz hbase
theorem wpList_append_sl {w : World} {ops : Array Oper} {rest : List Oper} {o : Oper} {a : Act} {Q : Exit → Act → World → Prop} (hgd : o.guard = none) (s x : Operand)
    (ho : o.op = .call { callee := .builtin .append, args := #[s, x], argTypes := #[97, 97] }) (base : Nat) (v u : Value) (ys : List (Int × Int)) (zs : Array (Int × Int)) (hs : a.eval s = v) (hx : a.eval x = u) (hown : OwnI w base v ys) (hsl : Sl w u zs)
    (hsz : ys.length + zs.size ≤ 1000000) (hbase : base ≤ w.heap.size)
    (h : ∀ v' w', OwnI w' base v' (ys ++ zs.toList) → w.grownBy w' v.ownBlock → wpList Tryd.prog ops Q rest (a.put o.dst v') w') : wpList Tryd.prog ops Q (o :: rest) a w := by
  refine wpList_plain hgd fun K hK => ?_
  obtain ⟨v', w', hr, h2, h3⟩ := run_append_sl w o.type base v u ys zs hown hsl hsz hbase
  unfold Oper.wp execOp
  simp only [ho, resolve, invoke, builtin, Sem.run_bind, Sem.run_pure, Result.andThen_ok, List.map_toArray, List.map_cons, List.map_nil, hs, hx, hr]
  exact hK _ _ (h v' w' h2 h3)

/-- What lies behind a slice's first item. -/
theorem RdAt.tail {w : World} {blk off : Nat} {x : Int × Int} {xs : List (Int × Int)} (h : RdAt w blk off (x :: xs).toArray) : RdAt w blk (off + 2) xs.toArray := by
  refine ⟨h.1, fun i hi => ?_⟩
  have hi' : i < xs.length := by simpa using hi
  have e : (x :: xs).toArray[i + 1]! = xs.toArray[i]! := by
    rw [getElem!_pos _ (i + 1) (by simp; omega), getElem!_pos _ i hi]; simp
  have := h.2 (i + 1) (by simp; omega)
  rw [e] at this
  exact ⟨by rw [show off + 2 + i * 2 = off + (i + 1) * 2 by omega]; exact this.1, by rw [show off + 2 + i * 2 + 1 = off + (i + 1) * 2 + 1 by omega]; exact this.2⟩
theorem Sl.tail {w : World} {blk off cap n : Nat} {x : Int × Int} {xs : List (Int × Int)} (h : RdAt w blk off (x :: xs).toArray) (hn : xs.length + 1 = n) (hc : n ≤ cap) : Sl w (.slice (some ⟨blk, off + 2, none⟩) (n - 1) (cap - 1)) xs.toArray :=
  ⟨some ⟨blk, off + 2, none⟩, cap - 1, by rw [show xs.toArray.size = n - 1 by simp; omega], by simp; omega, Or.inr ⟨blk, off + 2, rfl, h.tail⟩⟩
theorem Sl.empty (w : World) (p : Option Addr) (n cap : Nat) (xs : List (Int × Int)) (hx : xs.length = n) (h : n = 0) : Sl w (.slice p n cap) xs.toArray :=
  ⟨p, cap, by simp [hx], by simp; omega, Or.inl (by rw [List.size_toArray, hx]; exact h)⟩
end Go.Proofs.YtlaeaeciomkababDoor
