/-
  Lists of items of one's own that grow by append, one item at a time.
-/
import Derived.Test.YtlaeaeciomkababDoorRd
import Derived.OwnWalk
namespace Go.Proofs.YtlaeaeciomkababDoor
open Go.RowKit Go.Sort Go.Proofs

/-- The cells of items, one behind the other. -/
def flatL (ys : List (Int × Int)) : List Value := ys.flatMap encI
theorem flatL_len (ys : List (Int × Int)) : (flatL ys).length = ys.length * 2 := by
  induction ys with
  | nil => rfl
  | cons y r ih => simp [flatL, encI] at ih ⊢; omega
theorem flatL_snoc (ys : List (Int × Int)) (x : Int × Int) : flatL (ys ++ [x]) = flatL ys ++ [.int .i64 x.1, .int .i64 x.2] := by simp [flatL, encI]
theorem flatL_get (ys : List (Int × Int)) : ∀ i (h : i < ys.length), (flatL ys)[i * 2]? = some (.int .i64 ys[i].1) ∧ (flatL ys)[i * 2 + 1]? = some (.int .i64 ys[i].2) := by
  induction ys with
  | nil => intro i h; exact absurd h (Nat.not_lt_zero _)
  | cons y r ih =>
    intro i h
    match i, h with
    | 0, _ => exact ⟨rfl, rfl⟩
    | i + 1, h =>
      have := ih i (by simpa using h)
      have e : flatL (y :: r) = .int .i64 y.1 :: .int .i64 y.2 :: flatL r := rfl
      rw [e, show (i + 1) * 2 = i * 2 + 1 + 1 by omega]
      exact this

/-- The slice value v is a list of one's own, from block base on, that holds the items ys. -/
def OwnI (w : World) (base : Nat) (v : Value) (ys : List (Int × Int)) : Prop := w.ownsRow base 99 2 v ys.length (flatL ys)
theorem OwnI.nil (w : World) (base : Nat) : OwnI w base (.slice none 0 0) [] := World.ownsRow_nil w base 99 2
theorem OwnI.alloc {w : World} {base : Nat} {v : Value} {ys : List (Int × Int)} (h : OwnI w base v ys) (o : Obj) : OwnI (w.alloc o) base v ys := World.ownsRow.alloc h o
theorem OwnI.drewN {w : World} {base : Nat} {v : Value} {ys : List (Int × Int)} (h : OwnI w base v ys) (n : Nat) : OwnI (w.drewN n) base v ys := h
theorem OwnI.below {w w' : World} {base : Nat} {v : Value} {ys : List (Int × Int)} (h : OwnI w base v ys) (hb : Below w.heap.size w w') : OwnI w' base v ys :=
  World.ownsRow.kept (row := none) h ⟨hb.os, hb.tape, hb.output, hb.size, fun k hk _ => hb.block k hk⟩ (by cases hv : v.ownBlock <;> simp)
theorem OwnI.sl {w : World} {base : Nat} {v : Value} {ys : List (Int × Int)} (h : OwnI w base v ys) : Sl w v ys.toArray := by
  obtain ⟨hl, ⟨rfl, h0⟩ | ⟨g, cap, cur, rfl, hb, hg, hn, _, hs, ht⟩⟩ := h
  · exact Sl.nil' w (by simpa using h0)
  · have hlt : g < w.heap.size := (Array.getElem?_eq_some_iff.1 hg).1
    have hsz : ys.toArray.size = ys.length := by simp
    refine ⟨_, cap, by rw [hsz], by rw [hsz]; exact hn, Or.inr ⟨g, 0, rfl, hlt, fun i hi => ?_⟩⟩
    have hi' : i < ys.length := by rw [hsz] at hi; exact hi
    have hq := flatL_get ys i hi'
    have ex : ys.toArray[i]! = ys[i] := by rw [getElem!_pos _ i hi]; simp
    rw [← ht] at hq
    have key : ∀ j (u : Value), (cur.toList.take (ys.length * 2))[j]? = some u → w.cell? ⟨g, j, none⟩ = some u := fun j u hu => by
      rw [List.getElem?_take] at hu
      split at hu
      · have : cur[j]? = some u := by simpa using hu
        simp [World.cell?, hg, this]
      · cases hu
    rw [ex]
    exact ⟨by simpa using key _ _ hq.1, by simpa using key _ _ hq.2⟩

/-- Two lists of one's own that share no row. -/
def Apart (u v : Value) : Prop := ∀ k, u.ownBlock = some k → v.ownBlock ≠ some k
theorem Apart.symm {u v : Value} (h : Apart u v) : Apart v u := fun k h1 h2 => h k h2 h1
theorem Apart.nil (v : Value) : Apart (.slice none 0 0) v := fun k h => by cases h
theorem OwnI.kept {w w' : World} {base : Nat} {u v : Value} {ys : List (Int × Int)} (h : OwnI w base u ys) (hg : w.grownBy w' v.ownBlock) (ha : Apart u v) : OwnI w' base u ys := by
  refine World.ownsRow.kept h hg ?_
  cases hu : u.ownBlock with
  | none => exact Or.inl rfl
  | some k => exact Or.inr fun e => ha k hu e.symm
theorem Apart.grown {w : World} {base : Nat} {u v v' : Value} {ys : List (Int × Int)} (h : Apart u v) (hu : OwnI w base u ys) (hv : v'.ownBlock = v.ownBlock ∨ v'.ownBlock = some w.heap.size) : Apart u v' := by
  intro k h1 h2
  rcases hv with e | e
  · exact h k h1 (by rw [← e]; exact h2)
  · rw [e] at h2
    cases h2
    have := (World.ownsRow.lt hu w.heap.size h1).2
    omega

theorem info_item' : (Tryd.prog.info? 99).map (fun i => (i.zero, i.size, i.bytes)) = some (some (.agg #[.int .i64 0, .int .i64 0]), 2, 16) := by kernel_rfl

theorem run_append_item (w : World) (ty : TypeId) (base : Nat) (v : Value) (ys : List (Int × Int)) (x : Int × Int) (ad : Addr) (c : Nat) (hown : OwnI w base v ys) (c0 : w.cell? ad = some (.int .i64 x.1)) (c1 : w.cell? (ad.add 1) = some (.int .i64 x.2))
    (hsz : ys.length ≤ 1000000) (hbase : base ≤ w.heap.size) :
    ∃ v' w', (Builtin.append_ #[97, 97] ty #[v, .slice (some ad) 1 c]).run Tryd.prog w = .ok v' w' ∧ OwnI w' base v' (ys ++ [x]) ∧ w.grownBy w' v.ownBlock ∧ (v'.ownBlock = v.ownBlock ∨ v'.ownBlock = some w.heap.size) := by
  obtain ⟨i0, hi, hz0, hz1, hz2⟩ := info_parts info_item'
  have hnews : ∀ j u, [Value.int .i64 x.1, .int .i64 x.2][j]? = some u → w.cell? (ad.add j) = some u := fun j u hu => by
    match j, hu with
    | 0, hu => simp at hu; rw [← hu, show ad.add 0 = ad by simp [Addr.add]]; exact c0
    | 1, hu => simp at hu; rw [← hu]; exact c1
    | j + 2, hu => simp at hu
  have h1 : ∀ u ∈ [Value.int .i64 x.1, .int .i64 x.2], u.oneCell' = true := fun u hu => by simp at hu; rcases hu with rfl | rfl <;> rfl
  have hm : ys.length + 1 ≤ maxLen := by unfold maxLen; omega
  have app := fun bs (hb : bs ≤ w.heap.size) (ho : w.ownsRow bs 99 2 v ys.length (flatL ys)) => run_append_own (P := Tryd.prog) w bs 97 ty 99 i0 (.agg #[.int .i64 0, .int .i64 0]) 2 16 Tryd.underlying97 hi hz0 hz1 hz2 rfl (by omega)
    v ys.length (flatL ys) ho ad 1 c [.int .i64 x.1, .int .i64 x.2] rfl hnews h1 hm (by omega) hb
  obtain ⟨v', w', hr, ho, hg, hnil⟩ := app base hbase hown
  have ho' : OwnI w' base v' (ys ++ [x]) := by unfold OwnI; rw [flatL_snoc, List.length_append]; exact ho
  refine ⟨v', w', hr, ho', hg, ?_⟩
  obtain ⟨_, ⟨rfl, h0⟩ | ⟨g, cap, cur, rfl, hb, hgg, hn, hcm, hcs, ht⟩⟩ := id hown
  · right
    have e0 : ys = [] := List.eq_nil_of_length_eq_zero h0
    subst e0
    have hr2 := run_append_nil (P := Tryd.prog) w 97 ty 99 i0 _ Tryd.underlying97 hi hz0 ad 1 c [.int .i64 x.1, .int .i64 x.2] (by rw [hz1]; rfl) hnews (by omega) (by omega) (by rw [hz2]; omega)
    rw [hr2] at hr
    cases hr
    rfl
  · by_cases hroom : ys.length + 1 ≤ cap
    · left
      have hr2 := run_append_room (P := Tryd.prog) w 97 ty 99 i0 Tryd.underlying97 hi g ys.length cap cur hgg ad 1 c [.int .i64 x.1, .int .i64 x.2] (by rw [hz1]; rfl) hnews h1 hroom (by rw [hz1, hcs]; simp; omega)
      rw [hr2] at hr
      cases hr
      rfl
    · right
      have holds : ∀ j u, (flatL ys)[j]? = some u → w.cell? ((⟨g, 0, none⟩ : Addr).add j) = some u := World.ownsRow.cells hown (g := g) rfl
      have hr2 := run_append_grow (P := Tryd.prog) w 97 ty 99 i0 _ Tryd.underlying97 hi hz0 ⟨g, 0, none⟩ ys.length cap (flatL ys) (by rw [hz1]; exact hown.1) holds ad 1 c [.int .i64 x.1, .int .i64 x.2] (by rw [hz1]; rfl) hnews (by omega) (by omega)
        (growslice_fits (by omega) (by rw [hz2]; omega))
      rw [hr2] at hr
      cases hr
      rfl

/-- 'dst = append(dst, x)' at items. -/
theorem wpList_append_item {w : World} {ops : Array Oper} {rest : List Oper} {o : Oper} {a : Act} {Q : Exit → Act → World → Prop} (hgd : o.guard = none) (s x : Operand)
    (ho : o.op = .call { callee := .builtin .append, args := #[s, x], argTypes := #[97, 97] }) (base : Nat) (v : Value) (ys : List (Int × Int)) (y : Int × Int) (ad : Addr) (c : Nat) (hs : a.eval s = v) (hown : OwnI w base v ys)
    (hx : a.eval x = .slice (some ad) 1 c) (c0 : w.cell? ad = some (.int .i64 y.1)) (c1 : w.cell? (ad.add 1) = some (.int .i64 y.2)) (hsz : ys.length ≤ 1000000) (hbase : base ≤ w.heap.size)
    (h : ∀ v' w', OwnI w' base v' (ys ++ [y]) → w.grownBy w' v.ownBlock → (v'.ownBlock = v.ownBlock ∨ v'.ownBlock = some w.heap.size) → wpList Tryd.prog ops Q rest (a.put o.dst v') w') : wpList Tryd.prog ops Q (o :: rest) a w := by
  refine wpList_plain hgd fun K hK => ?_
  obtain ⟨v', w', hr, h2, h3, h4⟩ := run_append_item w o.type base v ys y ad c hown c0 c1 hsz hbase
  unfold Oper.wp execOp
  simp only [ho, resolve, invoke, builtin, Sem.run_bind, Sem.run_pure, Result.andThen_ok, List.map_toArray, List.map_cons, List.map_nil, hs, hx, hr]
  exact hK _ _ (h v' w' h2 h3 h4)
theorem below_of_grown {w w' : World} {base B : Nat} {v : Value} {ys : List (Int × Int)} (hown : OwnI w base v ys) (hg : w.grownBy w' v.ownBlock) (hB : B ≤ base) (hb : base ≤ w.heap.size) : Below B w w' :=
  (Below.refl B w).grown hg (by omega) fun k e => by have := (World.ownsRow.lt hown k e).1; omega
theorem below_drewN {B : Nat} {a w : World} (h : Below B a w) (n : Nat) : Below B a (w.drewN n) := ⟨h.os, h.tape, h.output, h.size, h.block⟩
/-- One of two lists grows. -/
theorem grow_one {w4 wq wa : World} {B : Nat} {va va' vb : Value} {az bz : List (Int × Int)} (o : Obj) (HA : OwnI wq B va az) (HB : OwnI wq B vb bz) (hap : Apart va vb) (hbr : Below B w4 wq) (hB : B ≤ wq.heap.size)
    (hg : (wq.alloc o).grownBy wa va.ownBlock) (hbk : va'.ownBlock = va.ownBlock ∨ va'.ownBlock = some (wq.alloc o).heap.size) : OwnI wa B vb bz ∧ Apart va' vb ∧ Below B w4 wa :=
  ⟨(HB.alloc o).kept hg hap.symm, (hap.symm.grown (HB.alloc o) hbk).symm, (hbr.alloc hB o).trans (below_of_grown (HA.alloc o) hg (Nat.le_refl _) (by simp; omega))⟩
end Go.Proofs.YtlaeaeciomkababDoor
