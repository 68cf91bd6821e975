/-
  'dst = append(dst, src...)' at any elements: src may be nothing.
-/
import Derived.Test.YtlaeaeciomkababDoorGen
namespace Go.Proofs.YtlaeaeciomkababDoor
open Go.RowKit Go.Proofs

section
variable {P : Program} {α : Type} {E : El P α}
/-- 'append(dst, nil...)'. -/
theorem run_append_noneE (w : World) (ty : TypeId) (base : Nat) (v : Value) (ys : List α) (c : Nat) (hown : OwnE E w base v ys) :
    (Builtin.append_ #[E.S, E.S] ty #[v, .slice none 0 c]).run P w = .ok v w := by
  obtain ⟨i0, hi, hz0, hz1, hz2⟩ := E.infoE
  obtain ⟨_, ⟨rfl, h0⟩ | ⟨g, cap, cur, rfl, _, _, hn, _⟩⟩ := hown
  · simp [Builtin.append_, run_underlying E.under, sizeOf, typeInfo, hi, Builtin.lenOf, Builtin.firstCells]
  · simp [Builtin.append_, run_underlying E.under, sizeOf, typeInfo, hi, Builtin.lenOf, Builtin.firstCells, hn, storeCells]
theorem run_append_slE (w : World) (ty : TypeId) (base : Nat) (v s : Value) (ys zs : List α) (hown : OwnE E w base v ys) (hs : SlE E w s zs) (hsz : ys.length + zs.length ≤ 1000000) (hbase : base ≤ w.heap.size) :
    ∃ v' w', (Builtin.append_ #[E.S, E.S] ty #[v, s]).run P w = .ok v' w' ∧ OwnE E w' base v' (ys ++ zs) ∧ w.grownBy w' v.ownBlock := by
  obtain ⟨p, cap, rfl, hc, h0 | ⟨blk, off, rfl, hr⟩⟩ := id hs
  · have e0 : zs = [] := h0
    subst e0
    cases p with
    | none => exact ⟨v, w, by simpa using run_append_noneE w ty base v ys cap hown, by simpa using hown, World.grownBy.refl w _⟩
    | some ad =>
      obtain ⟨v', w', hr, h1, h2, _⟩ := run_appendE (E := E) w ty base v ys [] ad 0 cap rfl hown (fun j u hu => by simp [El.flat] at hu) (by simpa using hsz) hbase
      exact ⟨v', w', by simpa using hr, by simpa using h1, h2⟩
  · obtain ⟨v', w', hr2, h1, h2, _⟩ := run_appendE (E := E) w ty base v ys zs ⟨blk, off, none⟩ zs.length cap rfl hown (fun j u hu => by
      have e : ((⟨blk, off, none⟩ : Addr).add j) = ⟨blk, off + j, none⟩ := by unfold Addr.add; split <;> simp_all
      rw [e]; exact hr.2 j u hu) hsz hbase
    exact ⟨v', w', hr2, h1, h2⟩
theorem wpList_append_slE {w : World} {ops : Array Oper} {rest : List Oper} {o : Oper} {a : Act} {Q : Exit → Act → World → Prop} (E : El P α) (hgd : o.guard = none) (s x : Operand)
    (ho : o.op = .call { callee := .builtin .append, args := #[s, x], argTypes := #[E.S, E.S] }) (base : Nat) (v u : Value) (ys zs : List α) (hs : a.eval s = v) (hx : a.eval x = u) (hown : OwnE E w base v ys) (hsl : SlE E w u zs)
    (hsz : ys.length + zs.length ≤ 1000000) (hbase : base ≤ w.heap.size)
    (h : ∀ v' w', OwnE E w' base v' (ys ++ zs) → w.grownBy w' v.ownBlock → wpList P ops Q rest (a.put o.dst v') w') : wpList P ops Q (o :: rest) a w := by
  refine wpList_plain hgd fun K hK => ?_
  obtain ⟨v', w', hr, h2, h3⟩ := run_append_slE w o.type base v u ys zs hown hsl hsz hbase
  unfold Oper.wp execOp
  simp only [ho, resolve, invoke, builtin, Sem.run_bind, Sem.run_pure, Result.andThen_ok, List.map_toArray, List.map_cons, List.map_nil, hs, hx, hr]
  exact hK _ _ (h v' w' h2 h3)
end
#print axioms wpList_append_slE
end Go.Proofs.YtlaeaeciomkababDoor
