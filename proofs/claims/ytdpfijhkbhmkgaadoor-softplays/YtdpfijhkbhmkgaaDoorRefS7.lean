/-
  The document's SoftPush: a round, and the end.
-/
import Derived.Test.YtdpfijhkbhmkgaaDoorRefS6
namespace Go.Proofs.YtdpfijhkbhmkgaaDoor
open Go.RowKit Go.Sort Go.Proofs

/-- The cell of a tree that is joined, while it is new. -/
def joinC (tr m i a : Nat) : SC × SlW := (⟨0, tr + 1, m, (i : Int), (a : Int), []⟩, none, 0, 0)
section
variable {w wr W : World} {base N r0 n g cn cc a k gk : Nat} {F : Nat → Prop} {T : List SN} {c0 : Value} {tw : SlW}
theorem PushD.next (h : PushD w base F N r0 n T c0 tw g cn cc a k gk wr) {tr i m' : Nat} (hm : m' = wantR r0 (tr + 1))
    (hx : ∃ Q c t ts is0 is fc fr, CellsAt EC wr base (.slice (some ⟨g, 0, none⟩) cn cc) (FB F N) Q ∧ PushA (plainQ Q) c a (t :: ts) (i :: is) fc fr ∧ NumX wr (fun j => j = g ∨ FB F N j) tw is0 ∧ is = is0.drop (k + 1) ∧ k + 1 ≤ is0.length ∧
      joinS r0 c (t :: ts) = T ∧ JoinG r0 (n + 1) c (t :: ts) ∧ Q.length + (t :: ts).length + 1 ≤ 2 * (n + 1) ∧ (t :: ts).length ≤ gk ∧ t.rank = c.rank ∧ t.rank = tr)
    (hN : w.heap.size = N) (hb : Below wr.heap.size wr W) :
    ∃ Q, OwnE EC W base (.slice (some ⟨g, 0, none⟩) cn cc) Q ∧ Q.length ≤ 100000 ∧ base ≤ W.heap.size ∧
      ∀ v' wa, OwnE EC wa base v' (Q ++ [joinC tr m' i a]) → W.grownBy wa (Value.slice (some ⟨g, 0, none⟩) cn cc).ownBlock → (v'.ownBlock = (Value.slice (some ⟨g, 0, none⟩) cn cc).ownBlock ∨ v'.ownBlock = some W.heap.size) →
        ∃ g' cc', v' = .slice (some ⟨g', 0, none⟩) (cn + 1) cc' ∧ wa.cell? ⟨N, 2, none⟩ = some (.slice (some ⟨g, 0, none⟩) cn cc) ∧ wa.frozen? ⟨N, 2, none⟩ = false ∧
          Calls Tryd.prog 33 #[v', .int .i64 (cn : Int)] (wa.setCell ⟨N, 2, none⟩ v') fun e w' => e = .returned (.tuple #[]) ∧ PushD w base F N r0 n T c0 tw g' (cn + 1) cc' cn (k + 1) (gk - 1) w' ∧ 0 < gk := by
  obtain ⟨Q, c, t, ts, is0, is, fc, fr, h1, h2, h3, h4, h5, h6, h7, h8, h9, er, et⟩ := hx
  have hl := h1.len
  have h1W := h1.below hb
  have h3W := h3.below hb
  have hbxW := h.box.below hb
  have hrsW := h.res.below hb
  have hgN : ¬ FB F N g := h1.apart g rfl
  refine ⟨Q, h1W.own, by have := h.few; omega, ?_, ?_⟩
  · have := h1W.lt
    have := (World.ownsRow.lt h1W.own g rfl).1
    omega
  rintro v' wa ho hg hbk
  have hgr : CellsAt EC wa base v' (FB F N) (Q ++ [joinC tr m' i a]) := h1W.grow ho hg hbk (SlX.void _ _)
  have hlen : (Q ++ [joinC tr m' i a]).length = cn + 1 := by rw [List.length_append, hl]; rfl
  obtain ⟨g', cc', rfl, _⟩ := ho.some hlen (by omega)
  have hch : Chg (fun j => j = g) W wa := Chg.of_grown hg (fun k e => by
    have : g = k := Option.some.inj e
    exact this.symm)
  have hNF : ∀ j, N ≤ j → j < N + 3 → FB F N j := fun j z1 z2 => Or.inr ⟨z1, z2⟩
  have hno : ∀ j, N ≤ j → j < N + 3 → ¬ j = g := fun j z1 z2 e => hgN (e ▸ hNF j z1 z2)
  have hbx2 := hbxW.chg hch (hno N (Nat.le_refl _) (by omega))
  have hrs2 := hrsW.chg hch (hno (N + 2) (by omega) (by omega))
  have hgo : g' = g ∨ W.heap.size ≤ g' := by
    rcases hbk with z | z
    · exact Or.inl (Option.some.inj z)
    · right; have : g' = W.heap.size := Option.some.inj z
      omega
  have hold : c0.ownBlock = some g' ∨ N ≤ g' := by
    rcases hgo with z | z
    · rw [z]; exact h.old
    · right
      have := h.chg.size
      have := hb.size
      omega
  have h3a : NumX wa (fun j => j = g' ∨ FB F N j) tw is0 := h3W.kept hch (fun j z => Or.inl z) (fun j z => by
    rcases z with z | z
    · rcases hgo with y | y
      · left; left; rw [z, y]
      · right; omega
    · exact Or.inl (Or.inr z))
  have hst : Chg (FB F N) wa (wa.setCell ⟨N, 2, none⟩ (.slice (some ⟨g', 0, none⟩) (cn + 1) cc')) := (Chg.refl _ wa).setCell (p := ⟨N, 2, none⟩) (Or.inl (hNF N (Nat.le_refl _) (by omega))) _
  have h1b := hgr.foreign hst (fun j z => Or.inl z) (fun j z => by rw [size_cell]; exact hgr.low j z)
  have h3b : NumX (wa.setCell ⟨N, 2, none⟩ (.slice (some ⟨g', 0, none⟩) (cn + 1) cc')) (fun j => j = g' ∨ FB F N j) tw is0 := h3a.kept hst (fun j z => Or.inr z) (fun j z => Or.inl z)
  have hbx3 := hbx2.put 2 (.slice (some ⟨g', 0, none⟩) (cn + 1) cc')
  have hrs3 := hrs2.far (q := N) (i := 2) (.slice (some ⟨g', 0, none⟩) (cn + 1) cc') (by omega)
  obtain ⟨f, fo, p1, p2, p3⟩ := h2.joined 0 (tr + 1) m'
  have eP : plainQ (Q ++ [joinC tr m' i a]) = plainQ Q ++ [⟨0, tr + 1, m', (i : Int), (a : Int), []⟩] := plainQ_append _ _
  rw [← eP] at p1 p3
  have eL : (plainQ Q).length = cn := by rw [plainQ_length, hl]
  rw [eL] at p1 p3
  have hsm := h7.small (by have := h.few; omega)
  have hgt := h7.all t List.mem_cons_self
  have hop : OpenN r0 0 (tr + 1) m' [] t c := by
    rw [hm, ← et]
    exact open_two hgt.1 h7.good er
  have cf := rfill_any r0 _ 0 (tr + 1) m' [] t c (Nat.le_refl _) hop (by simpa using hsm.1) _ base g' (cn + 1) cc' (FB F N) _ cn f h1b p1 p2
  refine ⟨g', cc', rfl, hbx2.cell (j := 2) rfl, hbx2.fr 2, cf.mono ?_⟩
  rintro e w' ⟨rfl, Q', f', z1, z2, z3, z4⟩
  have hg' : ¬ FB F N g' := z1.apart g' rfl
  have hno' : ∀ j, N ≤ j → j < N + 3 → ¬ j = g' := fun j y1 y2 e => hg' (e ▸ hNF j y1 y2)
  refine ⟨rfl, ⟨⟨Q', _, ts, is0, f', fo, z1, ?_, h3b.kept z4 (fun j z => Or.inl z) (fun j z => Or.inl z), h5, ?_, h7.next er, ?_, ?_⟩, ?_, hold, hbx3.chg z4 (hno' N (Nat.le_refl _) (by omega)), hrs3.chg z4 (hno' (N + 2) (by omega) (by omega)), rfl, h.few⟩, ?_⟩
  · have := p3 _ _ _ z3 z2
    rw [h4] at this
    rw [hm, ← et] at this
    exact this
  · rw [← h6]
    simp only [joinS]
    rw [if_pos er]
  · have := z3.len
    rw [plainQ_length, plainQ_length, hlen] at this
    simp only [List.length_cons] at h8
    omega
  · simp only [List.length_cons] at h9
    omega
  · have c1 : Chg (fun j => c0.ownBlock = some j) w W := h.chg.trans (Chg.of_below (F := fun _ => False) hb) (fun _ z => z.elim)
    have c2 : Chg (fun j => c0.ownBlock = some j) w wa := c1.trans hch (fun j z => by
      subst z
      rcases h.old with y | y
      · exact Or.inl y
      · exact Or.inr (by omega))
    have c3 := c2.setCell (p := ⟨N, 2, none⟩) (Or.inr (by show _ ≤ N; omega)) (.slice (some ⟨g', 0, none⟩) (cn + 1) cc')
    exact c3.trans z4 (fun j z => by
      subst z
      rcases hold with y | y
      · exact Or.inl y
      · exact Or.inr (by omega))
  · simp only [List.length_cons] at h9
    omega
theorem NumX.of_own {b L c : Nat} {p : Option Addr} {l : List Nat} {F : Nat → Prop} (h : OwnE ET W b (.slice p L c) l) (hF : ∀ j, F j → j < b) : NumX W F (p, L, c) l := by
  obtain ⟨q, c', e⟩ := h.form
  simp only [Value.slice.injEq] at e
  rcases Nat.eq_zero_or_pos l.length with h0 | h0
  · have e0 : l = [] := List.eq_nil_of_length_eq_zero h0
    subst e0
    obtain ⟨_, ⟨e1, _⟩ | ⟨g, cap, cur, e1, q1, hh, q3, _⟩⟩ := h
    · simp only [Value.slice.injEq] at e1
      obtain ⟨rfl, rfl, rfl⟩ := e1
      exact NumX.nil _ _
    · simp only [Value.slice.injEq] at e1
      obtain ⟨rfl, rfl, rfl⟩ := e1
      refine ⟨rfl, q3, Or.inr ⟨g, rfl, fun z => ?_, ?_, fun j v hv => ?_⟩⟩
      · have := hF g z; omega
      · exact (Array.getElem?_eq_some_iff.1 hh).1
      · simp [El.flat] at hv
  · obtain ⟨g, cp, e1, q1, q2, q3, _⟩ := h.some rfl h0
    simp only [Value.slice.injEq] at e1
    obtain ⟨rfl, rfl, rfl⟩ := e1
    exact ⟨rfl, q2, Or.inr ⟨g, rfl, fun z => by have := hF g z; omega, q3⟩⟩
theorem push_fin {Q : List (SC × SlW)} {is0 f : List Nat} {p7 : Option Addr} {l7 c7 : Nat} (h1 : CellsAt EC wr base (.slice (some ⟨g, 0, none⟩) cn cc) (FB F N) Q) (h2 : HeapA (plainQ Q) T (a :: is0.drop k) f) (h5 : Q.length + T.length ≤ 2 * (n + 1)) (hchg : Chg (fun j => c0.ownBlock = some j) w wr) (hN : w.heap.size = N)
    (hb : Below wr.heap.size wr W) (ho : OwnE ET W wr.heap.size (.slice p7 l7 c7) (a :: is0.drop k)) :
    ∀ W9, Chg (fun j => j = N ∨ j = N + 2) W W9 → DocS W9 base F (some ⟨g, 0, none⟩, cn, cc) (p7, l7, c7) (n + 1) T ∧ Chg (fun j => c0.ownBlock = some j) w W9 := by
  intro W9 hc
  have hX : NumX W (fun j => (Value.slice (some ⟨g, 0, none⟩) cn cc).ownBlock = some j ∨ FB F N j) (p7, l7, c7) (a :: is0.drop k) := NumX.of_own ho (fun j z => by
    rcases z with z | z
    · have : g = j := Option.some.inj z
      have := h1.lt; omega
    · exact h1.low j z)
  have hc' : Chg (FB F N) W W9 := hc.mono fun j z => Or.inl (Or.inr (by omega))
  refine ⟨⟨Q, _, f, (h1.below hb).foreign hc' (fun j z => Or.inl (Or.inl z)) (fun j z => ?_), h2, hX.kept hc' (fun j z => Or.inr z) (fun j z => Or.inl (z.imp_right Or.inl)), h5⟩, (hchg.trans (Chg.of_below (F := fun _ => False) hb) (fun _ z => z.elim)).trans hc (fun j z => Or.inr (by omega))⟩
  have := h1.low j (Or.inl z)
  have := hb.size
  have := hc.size
  omega
end
/-- 'dst = append(dst, src...)': nothing, or a stretch of elements behind an address. -/
theorem wpList_appendX {α : Type} {w : World} {ops : Array Oper} {rest : List Oper} {o : Oper} {a : Act} {Q : Exit → Act → World → Prop} (E : El Tryd.prog α) (hgd : o.guard = none) (s x : Operand)
    (ho : o.op = .call { callee := .builtin .append, args := #[s, x], argTypes := #[E.S, E.S] }) (base : Nat) (v : Value) (ys zs : List α) (ad : Addr) (m c : Nat) (hs : a.eval s = v) (hown : OwnE E w base v ys)
    (hx : a.eval x = .slice (some ad) m c) (hm : zs.length = m) (hc : ∀ j u, (E.flat zs)[j]? = some u → w.cell? (ad.add j) = some u) (hsz : ys.length + m ≤ 100000) (hbase : base ≤ w.heap.size)
    (h : ∀ v' w', OwnE E w' base v' (ys ++ zs) → w.grownBy w' v.ownBlock → wpList Tryd.prog ops Q rest (a.put o.dst v') w') : wpList Tryd.prog ops Q (o :: rest) a w := by
  refine wpList_plain hgd fun K hK => ?_
  obtain ⟨v', w', hr, h2, h3, h4⟩ := run_appendE w o.type base v ys zs ad m c hm hown hc (by omega) hbase
  unfold Oper.wp execOp
  simp only [ho, resolve, invoke, builtin, Sem.run_bind, Sem.run_pure, Result.andThen_ok, List.map_toArray, List.map_cons, List.map_nil, hs, hx, hr]
  exact hK _ _ (h v' w' h2 h3)
theorem run_appendE_nothing {α : Type} (E : El Tryd.prog α) (w : World) (ty : TypeId) (base : Nat) (v : Value) (ys : List α) (c : Nat) (hown : OwnE E w base v ys) :
    (Builtin.append_ #[E.S, E.S] ty #[v, .slice none 0 c]).run Tryd.prog w = .ok v w := by
  obtain ⟨i0, hi, hz0, hz1, hz2⟩ := E.infoE
  obtain ⟨_, ⟨rfl, h0⟩ | ⟨g, cap, cur, rfl, _, _, hn, _⟩⟩ := hown
  · simp [Builtin.append_, run_underlying E.under, sizeOf, typeInfo, hi, Builtin.lenOf, Builtin.firstCells]
  · simp [Builtin.append_, run_underlying E.under, sizeOf, typeInfo, hi, Builtin.lenOf, Builtin.firstCells, hn, storeCells]
theorem wpList_append0 {α : Type} {w : World} {ops : Array Oper} {rest : List Oper} {o : Oper} {a : Act} {Q : Exit → Act → World → Prop} (E : El Tryd.prog α) (hgd : o.guard = none) (s x : Operand)
    (ho : o.op = .call { callee := .builtin .append, args := #[s, x], argTypes := #[E.S, E.S] }) (base : Nat) (v : Value) (ys : List α) (c : Nat) (hs : a.eval s = v) (hown : OwnE E w base v ys)
    (hx : a.eval x = .slice none 0 c)
    (h : wpList Tryd.prog ops Q rest (a.put o.dst v) w) : wpList Tryd.prog ops Q (o :: rest) a w := by
  refine wpList_plain hgd fun K hK => ?_
  have hr := run_appendE_nothing E w o.type base v ys c hown
  unfold Oper.wp execOp
  simp only [ho, resolve, invoke, builtin, Sem.run_bind, Sem.run_pure, Result.andThen_ok, List.map_toArray, List.map_cons, List.map_nil, hs, hx, hr]
  exact hK _ _ h
/-- A stretch of the list that is read. -/
theorem src_of {w : World} {tb k : Nat} {F : Nat → Prop} {l : List Nat} (h : (some (⟨tb, 0, none⟩ : Addr) = none ∧ l = []) ∨ ∃ blk, some (⟨tb, 0, none⟩ : Addr) = some ⟨blk, 0, none⟩ ∧ ¬ F blk ∧ RdE ET w blk 0 l) : tb < w.heap.size ∧ ∀ W, Below w.heap.size w W → ∀ j u, (ET.flat (l.drop k))[j]? = some u → W.cell? ((⟨tb, k, none⟩ : Addr).add j) = some u := by
  rcases h with ⟨e, _⟩ | ⟨blk, e, _, hr⟩
  · cases e
  · simp only [Option.some.injEq, Addr.mk.injEq] at e
    obtain ⟨rfl, _⟩ := e
    refine ⟨hr.1, fun W hb j u hu => ?_⟩
    have h2 : RdE ET W tb (0 + k * ET.K) (l.drop k) := (hr.below hb hr.1).part k (zs := []) (by simp)
    have := h2.2 j u hu
    rw [show ((⟨tb, k, none⟩ : Addr).add j) = ⟨tb, k + j, none⟩ by unfold Addr.add; split <;> simp_all]
    simpa [ET] using this
theorem new_one (w : World) (a : Nat) : ∀ j u, (ET.enc a)[j]? = some u → (w.alloc (.cells #[.int .i64 (a : Int)] 3)).cell? ((⟨w.heap.size, 0, none⟩ : Addr).add j) = some u := by
  intro j u hu
  match j, hu with
  | 0, hu =>
    have hu : Value.int .i64 (a : Int) = u := by simpa [ET] using hu
    rw [← hu]
    simp [Addr.add]
  | j + 1, hu => simp [ET] at hu
theorem grown_nil {w w' : World} (h : w.grownBy w' (Value.slice none 0 0).ownBlock) : Below w.heap.size w w' := ⟨h.os, h.tape, h.output, h.size, fun k hk => h.block k hk (by simp [Value.ownBlock])⟩
theorem num_form {w : World} {b : Nat} {v : Value} {l : List Nat} (h : OwnE ET w b v l) : ∃ p n c, v = .slice p n c ∧ OwnE ET w b (.slice p n c) l := by
  obtain ⟨p, c, e⟩ := h.form
  exact ⟨p, _, c, e, by rw [← e]; exact h⟩
theorem src_none {w : World} {ad : Addr} (l : List Nat) (k : Nat) (h : l.length ≤ k) : ∀ j u, (ET.flat (l.drop k))[j]? = some u → w.cell? (ad.add j) = some u := by
  intro j u hu
  rw [List.drop_eq_nil_of_le h] at hu
  have hu : ([] : List Value)[j]? = some u := hu
  simp at hu
theorem src_nil {w : World} {ad : Addr} : ∀ j u, (ET.flat [])[j]? = some u → w.cell? (ad.add j) = some u := by
  intro j u hu
  have hu : ([] : List Value)[j]? = some u := hu
  simp at hu
/-- A new cell, as it is written. -/
theorem new_cell (w : World) (b : Nat) (hb : w.heap.size = b) (tr m i a : Nat) (x y : Int) (hx : x = (tr : Int) + 1) (hy : y = (m : Int)) : ∀ j u, (EC.enc (joinC tr m i a))[j]? = some u → (w.alloc (.cells #[.int .i64 0, .int .i64 x, .int .i64 y, .int .i64 (i : Int), .int .i64 (a : Int), .slice none 0 0] 70)).cell? ((⟨b, 0, none⟩ : Addr).add j) = some u := by
  intro j u hu
  subst hb hx hy
  rw [show ((⟨w.heap.size, 0, none⟩ : Addr).add j) = ⟨w.heap.size, j, none⟩ by unfold Addr.add; split <;> simp_all]
  exact (BlkAt.new w _ _).cell (by simpa [EC, encC, joinC] using hu)
end Go.Proofs.YtdpfijhkbhmkgaaDoor
