/-
  lean.writeNode and lean.written: a tree in memory, written as a list.
-/
import Derived.Test.YtoaabpoicacogaaDoorLTree
import Derived.Laws.OwnMore
namespace Go.Proofs.YtoaabpoicacogaaDoor
open Go.RowKit Go.Proofs

/-- 'append(dst, x)' at elements of any make, at a step of a region that draws its order. -/
theorem step_appendE {P : Program} {α : Type} (E : El P α) {w : World} {ops : Array Oper} {o : Oper} {a : Act} {K : Act → World → Prop} {Q : Exit → Act → World → Prop} {R : Prop} (hgd : o.guard = none) (s x : Operand)
    (ho : o.op = .call { callee := .builtin .append, args := #[s, x], argTypes := #[E.S, E.S] }) (base : Nat) (v : Value) (ys : List α) (y : α) (ad : Addr) (c : Nat) (hs : a.eval s = v) (hown : OwnE E w base v ys)
    (hx : a.eval x = .slice (some ad) 1 c) (hc : ∀ j u, (E.enc y)[j]? = some u → w.cell? (ad.add j) = some u) (hsz : ys.length ≤ 100000) (hbase : base ≤ w.heap.size)
    (h : ∀ v' w', OwnE E w' base v' (ys ++ [y]) → w.grownBy w' v.ownBlock → K (a.put o.dst v') w') :
    if Region.wanted o (yielded ops a.tmps) = true then Oper.wp P o a w K Q else R := by
  have hw : Region.wanted o (yielded ops a.tmps) = true := by simp [Region.wanted, hgd]
  rw [if_pos hw]
  obtain ⟨v', w', hr, h2, h3, h4⟩ := run_appendE w o.type base v ys [y] ad 1 c rfl hown (by rw [E.flat_one]; exact hc) (by omega) hbase
  unfold Oper.wp execOp
  simp only [ho, resolve, invoke, builtin, Sem.run_bind, Sem.run_pure, Result.andThen_ok, List.map_toArray, List.map_cons, List.map_nil, hs, hx, hr]
  exact h _ _ h2 h3

theorem own_setLeft {w : World} {base g cap n : Nat} {a b : List Nd} {k d l r L : Int} (h : OwnE EN w base (.slice (some ⟨g, 0, none⟩) n cap) (a ++ (k, d, l, r) :: b)) : OwnE EN (w.setCell ⟨g, a.length * 4 + 2, none⟩ (.int .i64 L)) base (.slice (some ⟨g, 0, none⟩) n cap) (a ++ (k, d, L, r) :: b) ∧ w.grownBy (w.setCell ⟨g, a.length * 4 + 2, none⟩ (.int .i64 L)) (some g) := by
  obtain ⟨p, c, e⟩ := h.form
  simp only [Value.slice.injEq] at e
  obtain ⟨_, hn, _⟩ := e
  have h' : w.ownsRow base EN.T EN.K (.slice (some ⟨g, 0, none⟩) n cap) n (EN.flat (a ++ (k, d, l, r) :: b)) := by rw [hn]; rw [hn] at h; exact h
  obtain ⟨this, hgb⟩ := World.ownsRow.stored h' (a.length * 4 + 2) (.int .i64 L)
  have e : (EN.flat (a ++ (k, d, l, r) :: b)).set (a.length * 4 + 2) (.int .i64 L) = EN.flat (a ++ (k, d, L, r) :: b) := by
    rw [El.flat_append, El.flat_append, List.set_append_right _ _ (by rw [El.flat_len]; show a.length * 4 ≤ _; omega), El.flat_len, show a.length * 4 + 2 - a.length * EN.K = 2 by show a.length * 4 + 2 - a.length * 4 = 2; omega, El.flat_cons, El.flat_cons]
    rfl
  rw [e] at this
  refine ⟨?_, hgb⟩
  unfold OwnE
  rw [show (a ++ (k, d, L, r) :: b).length = n by rw [hn]; simp]
  exact this
theorem own_setRight {w : World} {base g cap n : Nat} {a b : List Nd} {k d l r R : Int} (h : OwnE EN w base (.slice (some ⟨g, 0, none⟩) n cap) (a ++ (k, d, l, r) :: b)) : OwnE EN (w.setCell ⟨g, a.length * 4 + 3, none⟩ (.int .i64 R)) base (.slice (some ⟨g, 0, none⟩) n cap) (a ++ (k, d, l, R) :: b) ∧ w.grownBy (w.setCell ⟨g, a.length * 4 + 3, none⟩ (.int .i64 R)) (some g) := by
  obtain ⟨p, c, e⟩ := h.form
  simp only [Value.slice.injEq] at e
  obtain ⟨_, hn, _⟩ := e
  have h' : w.ownsRow base EN.T EN.K (.slice (some ⟨g, 0, none⟩) n cap) n (EN.flat (a ++ (k, d, l, r) :: b)) := by rw [hn]; rw [hn] at h; exact h
  obtain ⟨this, hgb⟩ := World.ownsRow.stored h' (a.length * 4 + 3) (.int .i64 R)
  have e : (EN.flat (a ++ (k, d, l, r) :: b)).set (a.length * 4 + 3) (.int .i64 R) = EN.flat (a ++ (k, d, l, R) :: b) := by
    rw [El.flat_append, El.flat_append, List.set_append_right _ _ (by rw [El.flat_len]; show a.length * 4 ≤ _; omega), El.flat_len, show a.length * 4 + 3 - a.length * EN.K = 3 by show a.length * 4 + 3 - a.length * 4 = 3; omega, El.flat_cons, El.flat_cons]
    rfl
  rw [e] at this
  refine ⟨?_, hgb⟩
  unfold OwnE
  rw [show (a ++ (k, d, l, R) :: b).length = n by rw [hn]; simp]
  exact this
-- WALK
set_option maxHeartbeats 16000000 in
set_option maxRecDepth 4000 in
theorem writeNode_step (k i : Int) (l r : LT) (vt v : Value) (ys : List Nd) (n : Nat) (w0 w : World) (HN : Hid (ys.length = n)) (HT : Hid (TrAt w0 (.node k i l r) vt)) (HB0 : Hid (Below w0.heap.size w0 w)) (HO0 : Hid (OwnE EN w w0.heap.size v ys)) (hsz : n + (l.size + r.size + 1) ≤ 1000)
    (IHL : Hid (∀ (u v : Value) (ys : List Nd) (w : World), l ≠ .nil → TrAt w0 l u → Below w0.heap.size w0 w → OwnE EN w w0.heap.size v ys → ys.length + l.size ≤ 1000 → Calls Tryd.prog 43 #[v, u] w fun e w' => ∃ v', e = .returned v' ∧ OwnE EN w' w0.heap.size v' (ys ++ LT.enc ys.length l) ∧ Below w0.heap.size w0 w'))
    (IHR : Hid (∀ (u v : Value) (ys : List Nd) (w : World), r ≠ .nil → TrAt w0 r u → Below w0.heap.size w0 w → OwnE EN w w0.heap.size v ys → ys.length + r.size ≤ 1000 → Calls Tryd.prog 43 #[v, u] w fun e w' => ∃ v', e = .returned v' ∧ OwnE EN w' w0.heap.size v' (ys ++ LT.enc ys.length r) ∧ Below w0.heap.size w0 w')) :
    Calls Tryd.prog 43 #[v, vt] w fun e w' => ∃ v', e = .returned v' ∧ OwnE EN w' w0.heap.size v' (ys ++ LT.enc ys.length (.node k i l r)) ∧ Below w0.heap.size w0 w' := by
  obtain ⟨bt, vl, vr, rfl, hlt, c0, c1, _, c3, c4, hl, hr⟩ := HT.out
  obtain ⟨pl, rfl⟩ := hl.ptr
  obtain ⟨pr, rfl⟩ := hr.ptr
  have HC : Hid (∀ w', Below w0.heap.size w0 w' → w'.cell? ⟨bt, 0, none⟩ = some (.int .i64 k) ∧ w'.cell? ⟨bt, 1, none⟩ = some (.int .i64 i) ∧ w'.cell? ⟨bt, 3, none⟩ = some (.pointer pl) ∧ w'.cell? ⟨bt, 4, none⟩ = some (.pointer pr)) :=
    fun w' hb => ⟨(hb.cell (p := ⟨bt, 0, none⟩) hlt).trans c0, (hb.cell (p := ⟨bt, 1, none⟩) hlt).trans c1, (hb.cell (p := ⟨bt, 3, none⟩) hlt).trans c3, (hb.cell (p := ⟨bt, 4, none⟩) hlt).trans c4⟩
  have HL : Hid (TrAt w0 l (.pointer pl)) := hl
  have HR : Hid (TrAt w0 r (.pointer pr)) := hr
  clear HT c0 c1 c3 c4 hl hr
  obtain ⟨p, cp, rfl⟩ : ∃ p c, v = .slice p n c := by have := HO0.out.form; rw [HN.out] at this; exact this
  obtain ⟨x0, x1, x3, x4⟩ := HC.out w HB0.out
  have hB0 : w0.heap.size ≤ w.heap.size := HB0.out.size
  have hlen : ys.length ≤ 1000 := by rw [HN.out]; omega
  go_enter Tryd.func43, Tryd.ntmps43
  go_wp2_with fail
  go_region_held3 (fun w' => w'.cell? ⟨bt, 0, none⟩ = some (.int .i64 k) ∧ w'.cell? ⟨bt, 1, none⟩ = some (.int .i64 i)) (first | go_keep | (exact ⟨y0, y1⟩))
    ((refine step_appendE EN (by rfl) (.tmp 8) (.tmp 20) (by rfl) w0.heap.size (.slice p n cp) ys (k, i, -1, -1) ⟨w.heap.size, 0, none⟩ 1 (by rfl) (OwnE.drewN (OwnE.alloc HO0.out _) 1) (by rfl) (new_node w _ rfl _ _ _ _) (by omega) (by simp; omega) ?_; intro v2 w2 h2 hg2; have hb2 : Below w0.heap.size w0 w2 := (below_dn (HB0.out.alloc hB0 _) 1).trans (below_ownE (OwnE.drewN (OwnE.alloc HO0.out _) 1) hg2 (Nat.le_refl _) (by simp; omega)); obtain ⟨y0, y1, y3, y4⟩ := HC.out w2 hb2; have HO2 : Hid (OwnE EN w2 w0.heap.size v2 (ys ++ [(k, i, -1, -1)])) := h2; have HB2 : Hid (Below w0.heap.size w0 w2) := hb2; clear h2 hg2 hb2))
  obtain ⟨g0, cp0, rfl, hgb0, hcp0, hrd0, hfr0⟩ := HO2.out.some (n := n + 1) (by simp [HN.out]) (by omega)
  have hx0 : (ys ++ [(k, i, (-1 : Int), (-1 : Int))])[n]? = some (k, i, -1, -1) := by rw [← HN.out]; simp
  obtain ⟨_, _, x2, _⟩ := hrd0.node hx0
  have f2 := hfr0 (n * 4 + 2)
  simp only [Nat.zero_add] at x2
  have hz0 : (n : Int) < ((n + 1 : Nat) : Int) := by omega
  rename_i hHeld
  clear hx0 hrd0 hfr0 x0 x1 x3 x4 y0 y1
  cases l using LT.parts with
  | nil =>
    obtain rfl : pl = none := Value.pointer.inj HL.out
    obtain ⟨g, cp1, e1, hgb, hcp, hrd, hfr⟩ := HO2.out.some (n := n + 1) (by simp [HN.out]) (by omega)
    simp only [Value.slice.injEq, Option.some.injEq, Addr.mk.injEq, and_true, true_and] at e1
    obtain ⟨rfl, rfl⟩ := e1
    have hx : (ys ++ (k, i, (-1 : Int), -1) :: [])[n]? = some (k, i, (-1 : Int), -1) := by rw [← HN.out]; simp
    obtain ⟨_, _, _, x3⟩ := hrd.node hx
    have f3 := hfr (n * 4 + 3)
    simp only [Nat.zero_add] at x3
    have hz : (n : Int) < ((n + 1 : Nat) : Int) := by omega
    obtain ⟨_, _, _, y4⟩ := HC.out w2 HB2.out
    clear hx hrd hfr
    cases r using LT.parts with
    | nil =>
      obtain rfl : pr = none := Value.pointer.inj HR.out
      go_wp2
      go_ret
      refine ⟨_, rfl, ?_, HB2.out⟩
      have e : LT.enc n (.node k i LT.nil .nil) = (k, i, (-1 : Int), -1) :: [] := by simp [LT.enc, LT.place]
      rw [HN.out, e]
      exact HO2.out
    | node k2 i2 l2 r2 =>
      obtain ⟨ar, rfl⟩ : ∃ ar, pr = some ar := by obtain ⟨blk, _, _, e, _⟩ := HR.out; exact ⟨_, Value.pointer.inj e⟩
      have HO5 := own_setRight (R := ((n + 1 : Nat) : Int)) HO2.out
      rw [HN.out] at HO5
      have HB5 : Below w0.heap.size w0 (w2.setCell ⟨g0, n * 4 + 3, none⟩ (.int .i64 ((n + 1 : Nat) : Int))) := HB2.out.grown HO5.2 HB2.out.size (fun q e => by cases e; exact hgb)
      have c := IHR.out _ _ _ _ (by simp) HR.out HB5 HO5.1 (by have h1 : (ys ++ (k, i, (-1 : Int), ((n + 1 : Nat) : Int)) :: []).length = n + 1 := (by simp [HN.out]); rw [h1]; simp only [LT.size] at hsz ⊢; omega)
      have HCC : Hid _ := c
      clear c HB5 HO5
      go_wp2_with fail
      refine Calls.mono HCC.out ?_
      rintro e w6 ⟨v6, rfl, hO6, hB6⟩
      have HO6 : Hid (OwnE EN w6 w0.heap.size v6 (ys ++ LT.enc n (.node k i LT.nil (.node k2 i2 l2 r2)))) := by
        have e : (ys ++ (k, i, (-1 : Int), ((n + 1 : Nat) : Int)) :: []).length = n + 1 := by simp [HN.out]
        rw [e] at hO6
        show OwnE _ _ _ _ _
        rw [List.append_assoc, List.cons_append] at hO6
        have e2 : LT.enc n (.node k i LT.nil (.node k2 i2 l2 r2)) = (k, i, (-1 : Int), ((n + 1 : Nat) : Int)) :: ([] ++ LT.enc (n + 1) (.node k2 i2 l2 r2)) := by simp [LT.enc, LT.place, LT.size]
        rw [e2]
        exact hO6
      have HB6 : Hid _ := hB6
      clear hO6 hB6 HCC
      go_wp2
      go_ret
      exact ⟨_, rfl, by rw [HN.out]; exact HO6.out, HB6.out⟩
  | node k1 i1 l1 r1 =>
    obtain ⟨al, rfl⟩ : ∃ al, pl = some al := by obtain ⟨blk, _, _, e, _⟩ := HL.out; exact ⟨_, Value.pointer.inj e⟩
    have HO5 := own_setLeft (L := ((n + 1 : Nat) : Int)) HO2.out
    rw [HN.out] at HO5
    have HB5 : Below w0.heap.size w0 (w2.setCell ⟨g0, n * 4 + 2, none⟩ (.int .i64 ((n + 1 : Nat) : Int))) := HB2.out.grown HO5.2 HB2.out.size (fun q e => by cases e; exact hgb0)
    have c := IHL.out _ _ _ _ (by simp) HL.out HB5 HO5.1 (by have h1 : (ys ++ (k, i, ((n + 1 : Nat) : Int), (-1 : Int)) :: []).length = n + 1 := (by simp [HN.out]); rw [h1]; simp only [LT.size] at hsz ⊢; omega)
    have HCC : Hid _ := c
    clear c HB5 HO5
    go_wp2_with fail
    refine Calls.mono HCC.out ?_
    rintro e w3 ⟨v3, rfl, hO3, hB3⟩
    obtain ⟨m, hm⟩ : ∃ m, n + 1 + (l1.size + r1.size + 1) = m := ⟨_, rfl⟩
    have HM : Hid (n + 1 + (l1.size + r1.size + 1) = m) := hm
    simp only [LT.size] at hsz
    have hm0 : n < m := by omega
    have hm1 : m ≤ 1000 := by omega
    have HO3 : Hid (OwnE EN w3 w0.heap.size v3 (ys ++ (k, i, ((n + 1 : Nat) : Int), (-1 : Int)) :: LT.enc (n + 1) (.node k1 i1 l1 r1))) := by
      have e : (ys ++ (k, i, ((n + 1 : Nat) : Int), (-1 : Int)) :: []).length = n + 1 := by simp [HN.out]
      rw [e] at hO3
      show OwnE _ _ _ _ _
      rw [List.append_assoc, List.cons_append] at hO3
      exact hO3
    have HB3 : Hid (Below w0.heap.size w0 w3) := hB3
    have HLEN : Hid (∀ q : Int, (ys ++ (k, i, ((n + 1 : Nat) : Int), q) :: LT.enc (n + 1) (.node k1 i1 l1 r1)).length = m) := fun q => by
      rw [List.length_append, List.length_cons, LT.enc_length, HN.out]; simp only [LT.size]; omega
    clear hO3 hB3 HCC hm
    obtain ⟨g3, cp3, rfl, _⟩ := HO3.out.some (n := m) (HLEN.out _) (by omega)
    clear HO2 HB2 x2 f2 y3 y4 hHeld
    obtain ⟨g, cp1, e1, hgb, hcp, hrd, hfr⟩ := HO3.out.some (n := m) (by first | exact HLEN.out _ | (have := HLEN.out 0; simp at this ⊢; omega)) (by omega)
    simp only [Value.slice.injEq, Option.some.injEq, Addr.mk.injEq, and_true, true_and] at e1
    obtain ⟨rfl, rfl⟩ := e1
    have hx : (ys ++ (k, i, ((n + 1 : Nat) : Int), -1) :: LT.enc (n + 1) (.node k1 i1 l1 r1))[n]? = some (k, i, ((n + 1 : Nat) : Int), -1) := by rw [← HN.out]; simp
    obtain ⟨_, _, _, x3⟩ := hrd.node hx
    have f3 := hfr (n * 4 + 3)
    simp only [Nat.zero_add] at x3
    have hz : (n : Int) < ((m : Nat) : Int) := by omega
    obtain ⟨_, _, _, y4⟩ := HC.out w3 HB3.out
    clear hx hrd hfr
    cases r using LT.parts with
    | nil =>
      obtain rfl : pr = none := Value.pointer.inj HR.out
      go_wp2
      go_ret
      refine ⟨_, rfl, ?_, HB3.out⟩
      have e : LT.enc n (.node k i (.node k1 i1 l1 r1) .nil) = (k, i, ((n + 1 : Nat) : Int), -1) :: LT.enc (n + 1) (.node k1 i1 l1 r1) := by simp [LT.enc, LT.place]
      rw [HN.out, e]
      exact HO3.out
    | node k2 i2 l2 r2 =>
      obtain ⟨ar, rfl⟩ : ∃ ar, pr = some ar := by obtain ⟨blk, _, _, e, _⟩ := HR.out; exact ⟨_, Value.pointer.inj e⟩
      have HO5 := own_setRight (R := ((m : Nat) : Int)) HO3.out
      rw [HN.out] at HO5
      have HB5 : Below w0.heap.size w0 (w3.setCell ⟨g3, n * 4 + 3, none⟩ (.int .i64 ((m : Nat) : Int))) := HB3.out.grown HO5.2 HB3.out.size (fun q e => by cases e; exact hgb)
      have c := IHR.out _ _ _ _ (by simp) HR.out HB5 HO5.1 (by have h1 : (ys ++ (k, i, ((n + 1 : Nat) : Int), ((m : Nat) : Int)) :: LT.enc (n + 1) (.node k1 i1 l1 r1)).length = m := (by first | exact HLEN.out _ | (have := HLEN.out 0; simp at this ⊢; omega)); rw [h1]; have h2 := HM.out; simp only [LT.size] at hsz ⊢; omega)
      have HCC : Hid _ := c
      clear c HB5 HO5
      go_wp2_with fail
      refine Calls.mono HCC.out ?_
      rintro e w6 ⟨v6, rfl, hO6, hB6⟩
      have HO6 : Hid (OwnE EN w6 w0.heap.size v6 (ys ++ LT.enc n (.node k i (.node k1 i1 l1 r1) (.node k2 i2 l2 r2)))) := by
        have e : (ys ++ (k, i, ((n + 1 : Nat) : Int), ((m : Nat) : Int)) :: LT.enc (n + 1) (.node k1 i1 l1 r1)).length = m := by first | exact HLEN.out _ | (have := HLEN.out 0; simp at this ⊢; omega)
        rw [e] at hO6
        show OwnE _ _ _ _ _
        rw [List.append_assoc, List.cons_append] at hO6
        have e2 : LT.enc n (.node k i (.node k1 i1 l1 r1) (.node k2 i2 l2 r2)) = (k, i, ((n + 1 : Nat) : Int), ((m : Nat) : Int)) :: (LT.enc (n + 1) (.node k1 i1 l1 r1) ++ LT.enc (m) (.node k2 i2 l2 r2)) := by rw [← HM.out]; rfl
        rw [e2]
        exact hO6
      have HB6 : Hid _ := hB6
      clear hO6 hB6 HCC
      go_wp2
      go_ret
      exact ⟨_, rfl, by rw [HN.out]; exact HO6.out, HB6.out⟩

theorem writeNode_any (w0 : World) : ∀ (t : LT) (u v : Value) (ys : List Nd) (w : World), t ≠ .nil → TrAt w0 t u → Below w0.heap.size w0 w → OwnE EN w w0.heap.size v ys → ys.length + t.size ≤ 1000 → Calls Tryd.prog 43 #[v, u] w fun e w' => ∃ v', e = .returned v' ∧ OwnE EN w' w0.heap.size v' (ys ++ LT.enc ys.length t) ∧ Below w0.heap.size w0 w'
  | ⟨none⟩, _, _, _, _, h, _, _, _, _ => absurd rfl h
  | ⟨some (k, i, l, r)⟩, u, v, ys, w, _, ht, hb, ho, hs => writeNode_step k i l r u v ys ys.length w0 w rfl ht hb ho (by simpa only [LT.size] using hs) (writeNode_any w0 l) (writeNode_any w0 r)
set_option maxHeartbeats 2000000 in
theorem written_any (t : LT) (u : Value) (w : World) (ht : TrAt w t u) (hs : t.size ≤ 1000) : Calls Tryd.prog 34 #[u] w fun e w' => ∃ v', e = .returned v' ∧ OwnE EN w' w.heap.size v' (LT.enc 0 t) ∧ Below w.heap.size w w' := by
  have hb0 : Below w.heap.size w (w.alloc (.cells #[] 38)) := (Below.refl _ _).alloc (Nat.le_refl _) _
  have ho : OwnE EN (w.alloc (.cells #[] 38)) w.heap.size (.slice (some ⟨w.heap.size, 0, none⟩) 0 0) [] := World.ownsRow_lit w #[] 0 (Nat.le_refl _) (by unfold maxLen; omega) (by simp)
  cases t using LT.parts with
  | nil =>
    obtain rfl : u = .pointer none := ht
    have HO : Hid _ := ho
    clear ho
    go_enter Tryd.func34, Tryd.ntmps34
    go_wp2
    go_ret
    exact ⟨_, rfl, HO.out, hb0⟩
  | node k i l r =>
    have c := writeNode_any w (.node k i l r) u _ [] _ (by simp) ht hb0 ho (by simpa using hs)
    obtain ⟨a, rfl⟩ : ∃ a, u = .pointer (some a) := by obtain ⟨blk, _, _, e, _⟩ := ht; exact ⟨_, e⟩
    have HC : Hid _ := c
    clear c ho ht
    go_enter Tryd.func34, Tryd.ntmps34
    go_wp2_with fail
    refine Calls.mono HC.out ?_
    rintro e w1 ⟨v', rfl, hO, hB⟩
    have HO : Hid (OwnE EN w1 w.heap.size v' (LT.enc 0 (.node k i l r))) := hO
    clear hO HC
    go_wp2
    go_ret
    exact ⟨_, rfl, HO.out, hB⟩
#print axioms written_any
end Go.Proofs.YtoaabpoicacogaaDoor
