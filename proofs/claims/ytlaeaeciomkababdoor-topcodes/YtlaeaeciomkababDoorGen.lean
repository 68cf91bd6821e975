/-
  Rows of elements of any make whose cells are plain values: read, owned, written; append at them.
-/
import Derived.WalkKit
import Derived.ProofKit
import Derived.LoopTactic
import Derived.Deep.LoopGhost
import Derived.BigQuiet
import Derived.BigRegion
import Derived.OwnWalk
import Derived.Laws.IdiomCopy
namespace Go.Proofs.YtlaeaeciomkababDoor
open Go.RowKit Go.Proofs

/-- Elements of a slice in memory: the cells of each. -/
structure El (P : Program) (α : Type) where
  enc : α → List Value
  K : Nat
  T : TypeId
  S : TypeId
  zero : Value
  bytes : Nat
  pos : 0 < K
  small : bytes ≤ 1000
  len : ∀ x, (enc x).length = K
  one : ∀ x, ∀ v ∈ enc x, v.oneCell' = true
  zlen : zero.cells.size = K
  info : (P.info? T).map (fun i => (i.zero, i.size, i.bytes)) = some (some zero, K, bytes)
  under : P.underlying S = some (.slice T)

theorem size_cell (w : World) (p : Addr) (v : Value) : (w.setCell p v).heap.size = w.heap.size := by simp [World.setCell]
theorem size_cells (g : Nat) : ∀ (vs : List Value) (o : Nat) (w : World), (w.setCells g o vs).heap.size = w.heap.size
  | [], _, _ => rfl
  | v :: r, o, w => by rw [World.setCells, size_cells g r, size_cell]

section
variable {P : Program} {α : Type} (E : El P α)

def El.flat (ys : List α) : List Value := ys.flatMap E.enc
theorem El.flat_nil : E.flat [] = [] := rfl
theorem El.flat_cons (y : α) (r : List α) : E.flat (y :: r) = E.enc y ++ E.flat r := by simp [El.flat]
theorem El.flat_append (a b : List α) : E.flat (a ++ b) = E.flat a ++ E.flat b := by simp [El.flat]
theorem El.flat_one (y : α) : E.flat [y] = E.enc y := by simp [El.flat]
theorem El.flat_len (ys : List α) : (E.flat ys).length = ys.length * E.K := by
  induction ys with
  | nil => simp [El.flat]
  | cons y r ih => rw [E.flat_cons, List.length_append, ih, E.len, List.length_cons, Nat.add_mul]; omega
theorem El.flat_cell (ys : List α) : ∀ v ∈ E.flat ys, v.oneCell' = true := by
  intro v hv
  simp only [El.flat, List.mem_flatMap] at hv
  obtain ⟨x, _, h⟩ := hv
  exact E.one x v h
theorem El.flat_get (ys : List α) : ∀ (i : Nat) (h : i < ys.length) (c : Nat), c < E.K → (E.flat ys)[i * E.K + c]? = (E.enc ys[i])[c]? := by
  induction ys with
  | nil => intro i h; exact absurd h (Nat.not_lt_zero _)
  | cons y r ih =>
    intro i h c hc
    rw [E.flat_cons]
    match i, h with
    | 0, _ =>
      rw [Nat.zero_mul, Nat.zero_add, List.getElem?_append_left (by rw [E.len]; exact hc)]
      rfl
    | i + 1, h =>
      rw [List.getElem?_append_right (by rw [E.len, Nat.add_mul]; omega), E.len, show (i + 1) * E.K + c - E.K = i * E.K + c by rw [Nat.add_mul]; omega]
      exact ih i (by simpa using h) c hc
theorem El.flat_drop (ys : List α) (a : Nat) : E.flat (ys.drop a) = (E.flat ys).drop (a * E.K) := by
  induction a generalizing ys with
  | zero => simp
  | succ a ih =>
    cases ys with
    | nil => simp [El.flat]
    | cons y r =>
      rw [List.drop_succ_cons, ih, E.flat_cons, Nat.add_mul, Nat.one_mul, Nat.add_comm, ← List.drop_drop]
      congr 1
      rw [List.drop_append_of_le_length (by rw [E.len]; exact Nat.le_refl _), ← E.len y, List.drop_length]
      rfl

/-- The elements xs lie at blk, off. -/
def RdE (w : World) (blk off : Nat) (xs : List α) : Prop :=
  blk < w.heap.size ∧ ∀ j v, (E.flat xs)[j]? = some v → w.cell? ⟨blk, off + j, none⟩ = some v
variable {E}
theorem RdE.block {w w' : World} {blk off : Nat} {xs : List α} (h : RdE E w blk off xs) (hs : w.heap.size ≤ w'.heap.size) (hb : w'.heap[blk]? = w.heap[blk]?) : RdE E w' blk off xs :=
  ⟨Nat.lt_of_lt_of_le h.1 hs, fun j v hv => (World.cell?_of_block (a := ⟨blk, off + j, none⟩) hb).trans (h.2 j v hv)⟩
theorem RdE.below {w w' : World} {blk off B : Nat} {xs : List α} (h : RdE E w blk off xs) (hb : Below B w w') (hB : blk < B) : RdE E w' blk off xs := h.block hb.size (hb.block blk hB)
theorem RdE.kept {w w' : World} {blk off : Nat} {row : Option Nat} {xs : List α} (h : RdE E w blk off xs) (hg : w.grownBy w' row) (hne : some blk ≠ row) : RdE E w' blk off xs := h.block hg.size (hg.block blk h.1 hne)
theorem RdE.cell {w : World} {blk off : Nat} {xs : List α} (h : RdE E w blk off xs) {i : Nat} {x : α} (hx : xs[i]? = some x) {c : Nat} {v : Value} (hv : (E.enc x)[c]? = some v) : w.cell? ⟨blk, off + i * E.K + c, none⟩ = some v := by
  obtain ⟨hi, e⟩ := List.getElem?_eq_some_iff.1 hx
  have hc : c < E.K := by have := (List.getElem?_eq_some_iff.1 hv).1; rw [E.len] at this; exact this
  have := h.2 (i * E.K + c) v (by rw [E.flat_get xs i hi c hc, e]; exact hv)
  rw [Nat.add_assoc]; exact this
/-- A stretch of it. -/
theorem RdE.part {w : World} {blk off : Nat} {xs ys zs : List α} (h : RdE E w blk off xs) (a : Nat) (e : xs.drop a = ys ++ zs) : RdE E w blk (off + a * E.K) ys := by
  refine ⟨h.1, fun j v hv => ?_⟩
  have h1 : (E.flat (xs.drop a))[j]? = some v := by
    rw [e, E.flat_append, List.getElem?_append_left (List.getElem?_eq_some_iff.1 hv).1]; exact hv
  rw [E.flat_drop, List.getElem?_drop] at h1
  have := h.2 _ v h1
  rw [Nat.add_assoc]; exact this

variable (E)
/-- A slice value that holds the elements xs. -/
def SlE (w : World) (v : Value) (xs : List α) : Prop :=
  ∃ p cap, v = .slice p xs.length cap ∧ xs.length ≤ cap ∧ (xs = [] ∨ ∃ blk off, p = some ⟨blk, off, none⟩ ∧ RdE E w blk off xs)
variable {E}
theorem SlE.below {w w' : World} {v : Value} {xs : List α} (h : SlE E w v xs) (hb : Below w.heap.size w w') : SlE E w' v xs := by
  obtain ⟨p, cap, rfl, hc, h | ⟨blk, off, rfl, hr⟩⟩ := h
  · exact ⟨p, cap, rfl, hc, Or.inl h⟩
  · exact ⟨_, cap, rfl, hc, Or.inr ⟨blk, off, rfl, hr.below hb hr.1⟩⟩
theorem SlE.of_rd {w : World} {blk off n cap : Nat} {xs : List α} (h : RdE E w blk off xs) (hn : xs.length = n) (hc : n ≤ cap) : SlE E w (.slice (some ⟨blk, off, none⟩) n cap) xs :=
  ⟨_, cap, by rw [hn], by rw [hn]; exact hc, Or.inr ⟨blk, off, rfl, h⟩⟩
theorem SlE.empty (w : World) (p : Option Addr) (cap : Nat) : SlE E w (.slice p 0 cap) [] := ⟨p, cap, rfl, Nat.zero_le _, Or.inl rfl⟩
theorem SlE.some {w : World} {p : Option Addr} {n cap : Nat} {xs : List α} (h : SlE E w (.slice p n cap) xs) (hn : 0 < n) : ∃ blk off, p = Option.some ⟨blk, off, none⟩ ∧ n ≤ cap ∧ xs.length = n ∧ RdE E w blk off xs := by
  obtain ⟨p', c', e, hc, h0 | ⟨blk, off, rfl, hr⟩⟩ := h
  · simp only [Value.slice.injEq] at e; rw [h0] at e; simp at e; omega
  · simp only [Value.slice.injEq] at e
    obtain ⟨rfl, rfl, rfl⟩ := e
    exact ⟨blk, off, rfl, hc, rfl, hr⟩

variable (E)
/-- The slice value v is a list of one's own, from block base on, that holds the elements ys. -/
def OwnE (w : World) (base : Nat) (v : Value) (ys : List α) : Prop := w.ownsRow base E.T E.K v ys.length (E.flat ys)
theorem OwnE.nil (w : World) (base : Nat) : OwnE E w base (.slice none 0 0) [] := World.ownsRow_nil w base E.T E.K
variable {E}
theorem OwnE.alloc {w : World} {base : Nat} {v : Value} {ys : List α} (h : OwnE E w base v ys) (o : Obj) : OwnE E (w.alloc o) base v ys := World.ownsRow.alloc h o
theorem OwnE.drewN {w : World} {base : Nat} {v : Value} {ys : List α} (h : OwnE E w base v ys) (n : Nat) : OwnE E (w.drewN n) base v ys := h
theorem OwnE.below {w w' : World} {base : Nat} {v : Value} {ys : List α} (h : OwnE E w base v ys) (hb : Below w.heap.size w w') : OwnE E w' base v ys :=
  World.ownsRow.kept (row := none) h ⟨hb.os, hb.tape, hb.output, hb.size, fun k hk _ => hb.block k hk⟩ (by cases hv : v.ownBlock <;> simp)
theorem OwnE.form {w : World} {base : Nat} {v : Value} {ys : List α} (h : OwnE E w base v ys) : ∃ p c, v = .slice p ys.length c := by
  obtain ⟨_, ⟨rfl, h0⟩ | ⟨g, cap, cur, rfl, _⟩⟩ := h
  · exact ⟨none, 0, by rw [h0]⟩
  · exact ⟨_, _, rfl⟩
theorem OwnE.weak {w : World} {base base' : Nat} {v : Value} {ys : List α} (h : OwnE E w base v ys) (hb : base' ≤ base) : OwnE E w base' v ys := by
  obtain ⟨h1, h2 | ⟨g, cap, cur, e, hg, r⟩⟩ := h
  · exact ⟨h1, Or.inl h2⟩
  · exact ⟨h1, Or.inr ⟨g, cap, cur, e, by omega, r⟩⟩
/-- .. that holds something: where it lies; it may be written. -/
theorem OwnE.some {w : World} {base : Nat} {v : Value} {ys : List α} {n : Nat} (h : OwnE E w base v ys) (hl : ys.length = n) (hn : 0 < n) :
    ∃ g cp, v = .slice (Option.some ⟨g, 0, none⟩) n cp ∧ base ≤ g ∧ n ≤ cp ∧ RdE E w g 0 ys ∧ ∀ j, w.frozen? ⟨g, j, none⟩ = false := by
  subst hl
  obtain ⟨_, ⟨_, h0⟩ | ⟨g, cp, cur, rfl, hb, hg, hc, _⟩⟩ := id h
  · omega
  · refine ⟨g, cp, rfl, hb, hc, ⟨(Array.getElem?_eq_some_iff.1 hg).1, fun j u hu => ?_⟩, fun j => by simp [World.frozen?, hg]⟩
    have hj := (List.getElem?_eq_some_iff.1 hu).1
    rw [E.flat_len] at hj
    rw [Nat.zero_add]
    exact (World.ownsRow.cellAt h j hj).trans hu
theorem OwnE.sl {w : World} {base : Nat} {v : Value} {ys : List α} (h : OwnE E w base v ys) : SlE E w v ys := by
  rcases Nat.eq_zero_or_pos ys.length with h0 | h0
  · obtain ⟨p, c, rfl⟩ := h.form
    have e := List.eq_nil_of_length_eq_zero h0
    subst e
    exact SlE.empty _ _ _
  · obtain ⟨g, cp, rfl, _, hc, hr, _⟩ := h.some rfl h0
    exact SlE.of_rd hr rfl hc
theorem below_ownE {w w' : World} {base B : Nat} {v : Value} {ys : List α} (hown : OwnE E w base v ys) (hg : w.grownBy w' v.ownBlock) (hB : B ≤ base) (hb : base ≤ w.heap.size) : Below B w w' :=
  (Below.refl B w).grown hg (by omega) fun k e => by have := (World.ownsRow.lt hown k e).1; omega

theorem El.infoE (E : El P α) : ∃ i, P.info? E.T = Option.some i ∧ i.zero = Option.some E.zero ∧ i.size = E.K ∧ i.bytes = E.bytes := by
  have h := E.info
  cases e : P.info? E.T with
  | none => rw [e] at h; simp at h
  | some i =>
    rw [e] at h
    simp only [Option.map_some, Option.some.injEq, Prod.mk.injEq] at h
    exact ⟨i, rfl, h.1, h.2.1, h.2.2⟩
/-- 'append(dst, src...)': a stretch of elements behind an address. -/
theorem run_appendE (w : World) (ty : TypeId) (base : Nat) (v : Value) (ys zs : List α) (ad : Addr) (m c : Nat) (hm : zs.length = m) (hown : OwnE E w base v ys) (hnews : ∀ j u, (E.flat zs)[j]? = Option.some u → w.cell? (ad.add j) = Option.some u)
    (hsz : ys.length + m ≤ 1000000) (hbase : base ≤ w.heap.size) :
    ∃ v' w', (Builtin.append_ #[E.S, E.S] ty #[v, .slice (Option.some ad) m c]).run P w = .ok v' w' ∧ OwnE E w' base v' (ys ++ zs) ∧ w.grownBy w' v.ownBlock ∧ (m ≠ 0 → (v'.ownBlock = v.ownBlock ∨ v'.ownBlock = Option.some w.heap.size)) := by
  subst hm
  obtain ⟨i0, hi, hz0, hz1, hz2⟩ := E.infoE
  have hby : (ys.length + zs.length) * E.bytes ≤ 140737488355328 := by
    have h1 := E.small
    have h2 : (ys.length + zs.length) * E.bytes ≤ 1000000 * 1000 := Nat.mul_le_mul hsz h1
    omega
  obtain ⟨v', w', hr, ho, hg, _⟩ := run_append_own (P := P) w base E.S ty E.T i0 E.zero E.K E.bytes E.under hi hz0 hz1 hz2 E.zlen E.pos
    v ys.length (E.flat ys) hown ad zs.length c (E.flat zs) (E.flat_len zs) hnews (E.flat_cell zs) (by unfold maxLen; omega) hby hbase
  refine ⟨v', w', hr, by unfold OwnE; rw [E.flat_append, List.length_append]; exact ho, hg, fun hm0 => ?_⟩
  obtain ⟨_, ⟨rfl, h0⟩ | ⟨g, cap, cur, rfl, hb, hgg, hn, hcm, hcs, ht⟩⟩ := id hown
  · right
    have e0 : ys = [] := List.eq_nil_of_length_eq_zero h0
    subst e0
    have hr2 := run_append_nil (P := P) w E.S ty E.T i0 _ E.under hi hz0 ad zs.length c (E.flat zs) (by rw [hz1]; exact E.flat_len zs) hnews (by omega) (by omega) (by rw [hz2]; have : zs.length * E.bytes ≤ 1000000 * 1000 := Nat.mul_le_mul (by simpa using hsz) E.small; omega)
    rw [hr2] at hr
    cases hr
    rfl
  · by_cases hroom : ys.length + zs.length ≤ cap
    · left
      have hr2 := run_append_room (P := P) w E.S ty E.T i0 E.under hi g ys.length cap cur hgg ad zs.length c (E.flat zs) (by rw [hz1]; exact E.flat_len zs) hnews (E.flat_cell zs) hroom (by rw [hz1, hcs, E.flat_len, ← Nat.add_mul]; exact Nat.mul_le_mul_right _ hroom)
      rw [hr2] at hr
      cases hr
      rfl
    · right
      have holds : ∀ j u, (E.flat ys)[j]? = Option.some u → w.cell? ((⟨g, 0, none⟩ : Addr).add j) = Option.some u := World.ownsRow.cells hown (g := g) rfl
      have hr2 := run_append_grow (P := P) w E.S ty E.T i0 _ E.under hi hz0 ⟨g, 0, none⟩ ys.length cap (E.flat ys) (by rw [hz1]; exact hown.1) holds ad zs.length c (E.flat zs) (by rw [hz1]; exact E.flat_len zs) hnews (by omega) (by omega)
        (growslice_fits (by omega) (by rw [hz2]; exact hby))
      rw [hr2] at hr
      cases hr
      rfl
/-- 'dst = append(dst, x)': x lies in a block of its own. -/
theorem wpList_appendE {w : World} {ops : Array Oper} {rest : List Oper} {o : Oper} {a : Act} {Q : Exit → Act → World → Prop} (E : El P α) (hgd : o.guard = none) (s x : Operand)
    (ho : o.op = .call { callee := .builtin .append, args := #[s, x], argTypes := #[E.S, E.S] }) (base : Nat) (v : Value) (ys : List α) (y : α) (ad : Addr) (c : Nat) (hs : a.eval s = v) (hown : OwnE E w base v ys)
    (hx : a.eval x = .slice (Option.some ad) 1 c) (hc : ∀ j u, (E.enc y)[j]? = Option.some u → w.cell? (ad.add j) = Option.some u) (hsz : ys.length ≤ 100000) (hbase : base ≤ w.heap.size)
    (h : ∀ v' w', OwnE E w' base v' (ys ++ [y]) → w.grownBy w' v.ownBlock → (v'.ownBlock = v.ownBlock ∨ v'.ownBlock = Option.some w.heap.size) → wpList P ops Q rest (a.put o.dst v') w') : wpList P ops Q (o :: rest) a w := by
  refine wpList_plain hgd fun K hK => ?_
  obtain ⟨v', w', hr, h2, h3, h4⟩ := run_appendE w o.type base v ys [y] ad 1 c rfl hown (by rw [E.flat_one]; exact hc) (by omega) hbase
  unfold Oper.wp execOp
  simp only [ho, resolve, invoke, builtin, Sem.run_bind, Sem.run_pure, Result.andThen_ok, List.map_toArray, List.map_cons, List.map_nil, hs, hx, hr]
  exact hK _ _ (h v' w' h2 h3 (h4 (by omega)))

variable (E)
/-- The elements d lie at blk, off, and may be written. -/
structure WrE (w : World) (blk off : Nat) (d : List α) : Prop where
  rd : RdE E w blk off d
  fr : ∀ j, j < d.length * E.K → w.frozen? ⟨blk, off + j, none⟩ = false
variable {E}
theorem WrE.lt {w : World} {blk off : Nat} {d : List α} (h : WrE E w blk off d) : blk < w.heap.size := h.rd.1
theorem WrE.block {w w' : World} {blk off : Nat} {d : List α} (h : WrE E w blk off d) (hs : w.heap.size ≤ w'.heap.size) (hb : w'.heap[blk]? = w.heap[blk]?) : WrE E w' blk off d :=
  ⟨h.rd.block hs hb, fun j hj => (World.frozen?_of_block (a := ⟨blk, off + j, none⟩) hb).trans (h.fr j hj)⟩
theorem WrE.below {w w' : World} {blk off B : Nat} {d : List α} (h : WrE E w blk off d) (hb : Below B w w') (hB : blk < B) : WrE E w' blk off d := h.block hb.size (hb.block blk hB)
theorem WrE.kept {w w' : World} {blk off : Nat} {row : Option Nat} {d : List α} (h : WrE E w blk off d) (hg : w.grownBy w' row) (hne : Option.some blk ≠ row) : WrE E w' blk off d := h.block hg.size (hg.block blk h.lt hne)
theorem WrE.drewN {w : World} {blk off : Nat} {d : List α} (h : WrE E w blk off d) (n : Nat) : WrE E (w.drewN n) blk off d := h.block (Nat.le_refl _) rfl
theorem WrE.set {w : World} {blk off : Nat} {d : List α} (h : WrE E w blk off d) {i : Nat} (hi : i < d.length) (y : α) : WrE E (w.setCells blk (off + i * E.K) (E.enc y)) blk off (d.set i y) := by
  have hlen : (E.enc y).length = E.K := E.len y
  have hmul : (i + 1) * E.K ≤ d.length * E.K := Nat.mul_le_mul_right _ hi
  rw [Nat.add_mul, Nat.one_mul] at hmul
  refine ⟨⟨by rw [size_cells]; exact h.lt, fun j v hv => ?_⟩, fun j hj => by rw [World.frozen?_setCells]; exact h.fr j (by simpa using hj)⟩
  have hj : j < d.length * E.K := by have := (List.getElem?_eq_some_iff.1 hv).1; rw [E.flat_len] at this; simpa using this
  have hdm : j / E.K < d.length := (Nat.div_lt_iff_lt_mul E.pos).2 hj
  have hc : j % E.K < E.K := Nat.mod_lt _ E.pos
  have ej : j / E.K * E.K + j % E.K = j := Nat.div_add_mod' j E.K
  rw [← ej, E.flat_get _ (j / E.K) (by simpa using hdm) _ hc, List.getElem_set] at hv
  by_cases e : i = j / E.K
  · rw [if_pos e] at hv
    have hin := World.cell?_setCells_in blk (E.enc y) (off + i * E.K) w (fun t ht => by
      rw [hlen] at ht
      have := h.rd.cell (i := i) (x := d[i]) (by simp [hi]) (c := t) (v := (E.enc d[i])[t]'(by rw [E.len]; exact ht)) (by simp)
      rw [this]; rfl) (j % E.K) (by rw [hlen]; exact hc)
    have e2 : off + j = off + i * E.K + j % E.K := by rw [e]; omega
    rw [e2, hin]
    rw [List.getElem?_eq_getElem (by rw [hlen]; exact hc)] at hv
    exact hv
  · rw [if_neg e] at hv
    have hout := World.cell?_setCells_out blk (E.enc y) (off + i * E.K) w ⟨blk, off + j, none⟩ (fun _ _ => by
      rw [hlen]
      show off + j < _ ∨ _ ≤ off + j
      rcases Nat.lt_or_ge j (i * E.K) with c | c
      · exact Or.inl (by omega)
      · right
        have h1 : ¬ j < (i + 1) * E.K := fun c2 => e (by
          have a1 : i ≤ j / E.K := (Nat.le_div_iff_mul_le E.pos).2 c
          have a2 : j / E.K < i + 1 := (Nat.div_lt_iff_lt_mul E.pos).2 c2
          omega)
        rw [Nat.add_mul, Nat.one_mul] at h1
        omega)
    rw [hout]
    refine h.rd.2 j v ?_
    rw [← ej, E.flat_get _ (j / E.K) hdm _ hc]; exact hv
end
end Go.Proofs.YtlaeaeciomkababDoor
